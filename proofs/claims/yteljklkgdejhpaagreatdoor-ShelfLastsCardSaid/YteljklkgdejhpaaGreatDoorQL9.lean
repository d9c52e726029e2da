/-
  What the program's memoryRecord of layer 20 answers (landed code): at memories that are right. No conditions but those typed.
-/
import Derived.Test.YteljklkgdejhpaaGreatDoorQL8
set_option linter.unusedSimpArgs false
set_option linter.unusedVariables false
set_option maxRecDepth 100000
set_option maxHeartbeats 16000000
namespace Go.Proofs.YteljklkgdejhpaaGreatDoor
open Go.RowKit
theorem zne (a b : Nat) : zbU [a, b] = putL a ++ putL b := by simp [zbU]
theorem zjW (a b c : Nat) : zbU [a, b, c] = putL a ++ (putL b ++ putL c) := by simp [zbU]
theorem znf (a : Nat) : zbU [a] = putL a := by simp [zbU]
def zpw (n clock room fl k : Nat) : List UInt8 := ([77] ++ zbU [n, clock]) ++ [UInt8.ofNat room] ++ zbU [fl] ++ [UInt8.ofNat k]
theorem zjX (n : Nat) (m : MemK) : zaz n m = zpw n m.clock m.c.1.toNat m.c.2.1 m.c.2.2.length ++ zbM m.c.2.2 ++ zaL m.b := by
 unfold zaz zpw
 rw [zne, znf]
 simp only [List.append_assoc, List.cons_append, List.nil_append]
theorem zlv (l : List Us) (k : Nat) (hk : k < l.length) : zbM (l.take (k + 1)) = zbM (l.take k) ++ zbU [l[k].1, l[k].2.1, l[k].2.2] := by
 rw [List.take_succ_eq_append_getElem hk, zjW]
 unfold zbM
 rw [List.flatMap_append]
 simp [useL]
theorem zjY (vs : List Nat) (cs : Array Value) (h : cs = (vs.map vNG).toArray) (W : World) (q : Nat) (hq : q = W.heap.size) : Rd vNG (W.alloc (.cells cs 28)) (some ⟨q, 0, none⟩) vs := by
 rw [hq]
 exact Rd.new (f := vNG) W vs _ _ h
def zqk (base : Nat) (T : List UInt8) (l : List Us) (w : World) (u i : Value) (wr : World) : Prop := ∃ k : Nat, i = .int .i64 (k : Int) ∧ k ≤ l.length ∧ wr.ownsRow base 5 1 u (27 + 24 * k) ((T ++ zbM (l.take k)).map vB) ∧ Below base w wr
theorem zdm (n : Nat) (x : WM) (m : MemK) (w : World) (h : InM w x m) (hok : zaX m = true) (hn : n < 18446744073709551616) :
  Calls Tryz.prog 40 #[.int .u64 (n : Int), aggM x m] w (zoy w (zaz n m) (zaz n m).length) := by
 obtain ⟨i0, hi, hz0, hz1, hz2⟩ := info_parts zcx
 obtain ⟨hR, hB⟩ := zat w 37 (lM x m) _ rfl
 obtain ⟨hokb, hokc⟩ := zaU.1 hok
 obtain ⟨⟨hc0, hc1⟩, hc2, _, _⟩ := zct.1 hokc
 have hle := zcU hokb
 have hbb := fun W (hb : Below w.heap.size w W) => ziM m.b.1 x.b.es m.b.2.2 x.b.n x.b.ec x.b.g x.b.gc x.b.eA x.b.gA W h.ib.ne h.ib.ng (h.ib.re.keep hb) (h.ib.oe.keep hb) (h.ib.rg.keep hb) h.ib.fit.1 (by rw [h.ib.con]; exact h.ib.fit.2.1) h.ib.fit.2.2 (by rw [h.ib.con]; exact hokb)
 rw [h.ib.con] at hbb
 rw [show zbp m.b.1 m.b.2.1 m.b.2.2 = zaL m.b from rfl] at hbb
 rw [zjX]
 generalize zaL m.b = TB at hbb hle ⊢
 unfold aggB at hbb
 have HBB := Lib.hid hbb
 have hns := h.ic.ns
 have hru := h.ic.ru
 have hcl := h.fc
 have hfl := h.ic.fit.1
 have HFU := Lib.hid h.ic.fit.2
 clear hbb hok hokb hokc h
 unfold aggM
 obtain ⟨clock, b, room, fl, l⟩ := m
 obtain ⟨xb, A, s, c⟩ := x
 dsimp only at *
 subst hns
 have hl64 : l.length ≤ 64 := by omega
 obtain ⟨rm, rfl⟩ : ∃ rm : Nat, room = (rm : Int) := ⟨room.toNat, by omega⟩
 rw [Int.toNat_natCast]
 have hrm : rm ≤ 64 := by omega
 clear hc0 hc1 hc2
 have HRM := Lib.hid (zfN rm (by omega))
 have HLL := Lib.hid (zfN l.length (by omega))
 have HN1 := Lib.hid (fun A c W (h : Rd vNG W A [n, clock]) => zeg [n, clock] 2 16 A c W (Lib.hid rfl) h (Lib.hid (by intro v hv; simp at hv; rcases hv with rfl | rfl <;> assumption)) (by omega) rfl)
 have HN2 := Lib.hid (fun A c W (h : Rd vNG W A [fl]) => zeg [fl] 1 8 A c W (Lib.hid rfl) h (Lib.hid (by intro v hv; simp at hv; rcases hv with rfl; assumption)) (by omega) rfl)
 have HR1 := Lib.hid (zjY [n, clock] _ rfl)
 have HR2 := Lib.hid (zjY [fl] _ rfl)
 unfold zpw
 have HL1 : Hid ((zbU [n, clock]).length = 16) := zbZ _
 have HL2 : Hid ((zbU [fl]).length = 8) := zbZ _
 generalize zbU [n, clock] = N1 at *
 generalize zbU [fl] = N2 at *
 obtain ⟨RES, hRES⟩ : ∃ R, ([77] ++ N1) ++ [UInt8.ofNat rm] ++ N2 ++ [UInt8.ofNat l.length] ++ zbM l ++ TB = R := ⟨_, rfl⟩
 rw [hRES]
 have HRES := Lib.hid hRES
 clear hRES
 go_enter Tryz.func40, Tryz.ntmps40
 go_upto_region 1 with fail
 generalize (w.alloc (.cells #[.int .u64 (clock : Int), .int .u64 (b.1 : Int), .slice xb.eA xb.n xb.ec, .slice xb.gA xb.g xb.gc, .int .i64 (rm : Int), .int .u64 (fl : Int), .slice A l.length c] 37)) = w1 at hR hB ⊢
 have hown0 : (w1.alloc (.cells #[.int .u8 77] 5)).ownsRow w1.heap.size 5 1 (.slice (some ⟨w1.heap.size, 0, none⟩) 1 1) 1 ([(77 : UInt8)].map vB) := zf4 w1 5 ([(77 : UInt8)].map vB) #[.int .u8 77] rfl (by unfold maxLen; simp)
 have hb1 := zak (Below.refl w1.heap.size w1) (.cells #[.int .u8 77] 5)
 have hRl := hR.later hb1
 have k0 := hRl.cell (i := 0) rfl
 go_wp2_with fail
 refine (HN1.out _ _ _ (HR1.out _ _ (by simp))).mono ?_
 rintro e w2 ⟨A2, c2, rfl, hc2, hr2, hb2⟩
 have hb12 := zak (Below.refl (w1.alloc (.cells #[.int .u8 77] 5)).heap.size (w1.alloc (.cells #[.int .u8 77] 5))) (.cells #[.int .u64 (n : Int), .int .u64 (clock : Int)] 28)
 have hownA := zam (zam hown0 hb12) hb2
 have hB2 : Below w1.heap.size w1 w2 := zaa (zaa hb1 hb12) hb2
 have hRw := hR.later hB2
 have hz2' := hB2.size
 have k4 := hRw.cell (i := 4) rfl
 clear hb12 hb2 hown0 hb1 hRl k0
 go_upto_region 2 with (at_builtin; refine zao _ rfl (.tmp 10) (.tmp 15) 22 rfl w1.heap.size 5 i0 (.int .u8 0) 1 Tryz.underlying22 hi hz0 hz1 hz2 rfl _ _ _ rfl hownA A2 N1 c2 (by rw [HL1.out]; rfl) hr2 zbt (by rw [HL1.out]; unfold maxLen; omega) (by rw [HL1.out]; omega) hz2' ?_; intro v3 w3 hown3 hgrow3 hat3)
 have hB3 := hB2.grown hgrow3 hz2' (fun k hk => (hownA.lt k hk).1)
 rw [← List.map_append, HL1.out] at hown3
 have hR3 := hR.later hB3
 have hz3 := hB3.size
 replace k4 := hR3.cell (i := 4) rfl
 clear hownA hB2 hRw hz2' hgrow3 hat3 hr2
 go_upto_region 3 with (at_builtin; refine zao _ rfl (.tmp 17) (.tmp 22) 22 rfl w1.heap.size 5 i0 (.int .u8 0) 1 Tryz.underlying22 hi hz0 hz1 hz2 rfl _ _ _ rfl (zam hown3 (zak (Below.refl _ _) _)) (some ⟨w3.heap.size, 0, none⟩) [UInt8.ofNat rm] 1 rfl (Rd.new w3 [UInt8.ofNat rm] _ _ (by rw [List.map_cons, HRM.out]; rfl)) zbt (by simp only [List.length_cons, List.length_nil]; unfold maxLen; omega) (by simp only [List.length_cons, List.length_nil]; omega) (by have := hz3; simp; omega) ?_; intro v4 w4 hown4 hgrow4 hat4)
 have hB4 := (zak hB3 (.cells #[.int .u8 (rm : Int)] 5)).grown hgrow4 (by simp; omega) (fun k hk => (hown3.lt k hk).1)
 rw [← List.map_append, show ([UInt8.ofNat rm] : List UInt8).length = 1 from rfl] at hown4
 have hR4 := hR.later hB4
 have hz4 := hB4.size
 have k5 := hR4.cell (i := 5) rfl
 clear hown3 hB3 hR3 hz3 k4 hgrow4 hat4
 go_wp2_with fail
 refine (HN2.out _ _ _ (HR2.out _ _ (by simp))).mono ?_
 rintro e w5 ⟨A5, c5, rfl, hc5, hr5, hb5⟩
 have hb45 := zak (Below.refl w4.heap.size w4) (.cells #[.int .u64 (fl : Int)] 28)
 have hownB := zam (zam hown4 hb45) hb5
 have hB5 := zaa (zaa hB4 hb45) hb5
 have hz5 := hB5.size
 clear hb45 hb5 hown4 hB4 hR4 hz4 k5
 go_upto_region 4 with (at_builtin; refine zao _ rfl (.tmp 24) (.tmp 29) 22 rfl w1.heap.size 5 i0 (.int .u8 0) 1 Tryz.underlying22 hi hz0 hz1 hz2 rfl _ _ _ rfl hownB A5 N2 c5 (by rw [HL2.out]; rfl) hr5 zbt (by rw [HL2.out]; unfold maxLen; omega) (by rw [HL2.out]; omega) hz5 ?_; intro v6 w6 hown6 hgrow6 hat6)
 have hB6 := hB5.grown hgrow6 hz5 (fun k hk => (hownB.lt k hk).1)
 rw [← List.map_append, HL2.out] at hown6
 have hR6 := hR.later hB6
 have hz6 := hB6.size
 have k6 := hR6.cell (i := 6) rfl
 clear hownB hB5 hz5 hgrow6 hat6 hr5
 go_upto_region 5 with (at_builtin; refine zao _ rfl (.tmp 31) (.tmp 37) 22 rfl w1.heap.size 5 i0 (.int .u8 0) 1 Tryz.underlying22 hi hz0 hz1 hz2 rfl _ _ _ rfl (zam hown6 (zak (Below.refl _ _) _)) (some ⟨w6.heap.size, 0, none⟩) [UInt8.ofNat l.length] 1 rfl (Rd.new w6 [UInt8.ofNat l.length] _ _ (by rw [List.map_cons, HLL.out]; rfl)) zbt (by simp only [List.length_cons, List.length_nil]; unfold maxLen; omega) (by simp only [List.length_cons, List.length_nil]; omega) (by have := hz6; simp; omega) ?_; intro v7 w7 hown7 hgrow7 hat7)
 have hB7 := (zak hB6 (.cells #[.int .u8 (l.length : Int)] 5)).grown hgrow7 (by simp; omega) (fun k hk => (hown6.lt k hk).1)
 rw [← List.map_append, show ([UInt8.ofNat l.length] : List UInt8).length = 1 from rfl] at hown7
 have hR7 := hR.later hB7
 have k7 := hR7.cell (i := 6) rfl
 clear hown6 hB6 hR6 hz6 k6 hgrow7 hat7
 have HT : Hid ((([77] ++ N1) ++ [UInt8.ofNat rm] ++ N2 ++ [UInt8.ofNat l.length]).length = 27) := by
  unfold Hid
  simp only [List.length_append, HL1.out, HL2.out, List.length_cons, List.length_nil]
 generalize ([77] ++ N1) ++ [UInt8.ofNat rm] ++ N2 ++ [UInt8.ofNat l.length] = T at hown7 HT HRES ⊢
 have hown7' : w7.ownsRow w1.heap.size 5 1 v7 (27 + 24 * 0) ((T ++ zbM (l.take 0)).map vB) := by
  have e : T ++ zbM (l.take 0) = T := by simp [zbM]
  rw [e]
  exact hown7
 go_upto_region 6 with fail
 go_loopw [5, 43] (fun u i wr => zqk w1.heap.size T l w1 u i wr) (fun _ i _ => l.length - (intOf i).toNat)
 case atStart => exact ⟨0, rfl, Nat.zero_le _, hown7', hB7⟩
 case round =>
  clear hown7 hown7' hB7 hR7 k7
  obtain ⟨k, rfl, hk, hown, hBr⟩ := hrel
  have hszr := hBr.size
  have hRr := hR.later hBr
  by_cases hlt : k < l.length
  ·have hruw := hru.keep (hB.trans (hBr.mono hB.size))
   obtain ⟨b3, o3, rfl, hb3, hrng, _, _, _⟩ := hruw.pair hlt
   have HTK := Lib.hid (zlv l k hlt)
   have hfu := HFU.out _ (List.getElem_mem hlt)
   generalize l[k] = u at hrng HTK hfu
   obtain ⟨g0, g1, g2⟩ := u
   unfold zes vNU at hrng
   obtain ⟨hf0, hf1, hf2⟩ := hfu
   dsimp only at hrng HTK hf0 hf1 hf2
   have HN3 := Lib.hid (fun A c W (h : Rd vNG W A [g0, g1, g2]) => zeg [g0, g1, g2] 3 24 A c W (Lib.hid rfl) h (Lib.hid (by intro v hv; simp at hv; rcases hv with rfl | rfl | rfl <;> assumption)) (by omega) rfl)
   have HR3 := Lib.hid (zjY [g0, g1, g2] _ rfl)
   have HL3 : Hid ((zbU [g0, g1, g2]).length = 24) := zbZ _
   generalize zbU [g0, g1, g2] = N3 at *
   generalize zbM (l.take k) = Lk at hown HTK
   have i2 : (0 : Int) ≤ (k : Int) := by omega
   have i3 : (k : Int) < (l.length : Int) := by omega
   clear hf0 hf1 hf2
   obtain ⟨hRu, hBu⟩ := zat wr 57 [.int .u64 0, .int .u64 0, .int .u64 0] _ rfl
   go_upto_region 8 with (first
    | (refine wpList_load_mid rfl 57 (.tmp 45) rfl b3 (o3 + k * 3) rfl [.int .u64 (g0 : Int), .int .u64 (g1 : Int), .int .u64 (g2 : Int)] _ hrng Tryz.underlying57 rfl (by exact zaW) ?_)
    | (refine zab rfl 57 (.tmp 7) (.tmp 46) rfl (wr.heap.size) rfl ([.int .u64 (g0 : Int), .int .u64 (g1 : Int), .int .u64 (g2 : Int)]) rfl _ _ (hRu) (by exact zaW) rfl (zaK _ _ _ rfl rfl rfl) ?_))
   have hRu2 := hRu.setRow [.int .u64 (g0 : Int), .int .u64 (g1 : Int), .int .u64 (g2 : Int)]
   have hBn := below_setRow hBu (Nat.le_refl _) [.int .u64 (g0 : Int), .int .u64 (g1 : Int), .int .u64 (g2 : Int)].toArray
   clear hRu hBu
   generalize (wr.alloc (.cells #[.int .u64 0, .int .u64 0, .int .u64 0] 57)).setRow wr.heap.size [.int .u64 (g0 : Int), .int .u64 (g1 : Int), .int .u64 (g2 : Int)].toArray = wb at hRu2 hBn ⊢
   have hownC := zam hown hBn
   have hBb := zaa hBr hBn
   have hap := zgh hown
   have u0 := hRu2.cell (i := 0) rfl
   have u1 := hRu2.cell (i := 1) rfl
   have u2 := hRu2.cell (i := 2) rfl
   clear hBn hown hBr hRr hruw hrng
   go_wp2_with fail
   refine (HN3.out _ _ _ (HR3.out _ _ (by simp))).mono ?_
   rintro e wc ⟨A9, c9, rfl, hc9, hr9, hb9⟩
   have hb89 := zak (Below.refl wb.heap.size wb) (.cells #[.int .u64 (g0 : Int), .int .u64 (g1 : Int), .int .u64 (g2 : Int)] 28)
   have hownD := zam (zam hownC hb89) hb9
   have hBc := zaa (zaa hBb hb89) hb9
   have hzc := hBc.size
   clear hb89 hb9 hownC hBb u0 u1 u2 hRu2
   go_wp2_with (at_builtin; refine zao _ rfl (.tmp 47) (.tmp 55) 22 rfl w1.heap.size 5 i0 (.int .u8 0) 1 Tryz.underlying22 hi hz0 hz1 hz2 rfl _ _ _ rfl hownD A9 N3 c9 (by rw [HL3.out]; rfl) hr9 zbt (by rw [HL3.out]; unfold maxLen; omega) (by rw [HL3.out]; omega) hzc ?_; intro v8 w8 hown8 hgrow8 hat8)
   have hB8 := hBc.grown hgrow8 hzc (fun j hj => (hownD.lt j hj).1)
   rw [← List.map_append, List.append_assoc, ← HTK.out, HL3.out] at hown8
   clear hownD hBc hgrow8 hat8 hr9
   go_roundw
   case rel => exact ⟨k + 1, rfl, by omega, by rw [Nat.mul_add, ← Nat.add_assoc]; exact hown8, hB8⟩
   case measure => simp [intOf]; omega
  ·have hkk : k = l.length := by omega
   subst hkk
   rw [List.take_length] at hown
   have HTL : Hid ((T ++ zbM l).length = 27 + 24 * l.length) := by unfold Hid; rw [List.length_append, HT.out, zbW]
   generalize T ++ zbM l = TT at hown HTL HRES ⊢
   have j1 : ¬ (l.length : Int) < (l.length : Int) := by omega
   go_wp2_with (refine zac rfl 32 (.tmp 59) rfl (w.heap.size) 1 rfl _ _ (hRr) ((lB xb b)) (by rfl) _ Tryz.underlying32 rfl (by exact zax) ?_)
   refine (HBB.out _ (hB.trans (hBr.mono hB.size))).mono ?_
   rintro e w8 ⟨A8, m8, c8, rfl, HM8, hc8, hr8, hb8⟩
   have hownE := zam hown hb8
   have hBe := zaa hBr hb8
   have hze := hBe.size
   have hm8 : m8 ≤ 4171 := by rw [← HM8.out]; exact hle
   clear hown hBr hb8 hle
   go_wp2_with (at_builtin; refine zao _ rfl (.tmp 64) (.tmp 65) 22 rfl w1.heap.size 5 i0 (.int .u8 0) 1 Tryz.underlying22 hi hz0 hz1 hz2 rfl _ _ _ rfl hownE A8 TB c8 (by rw [HM8.out]; rfl) hr8 zbt (by rw [HM8.out]; unfold maxLen; omega) (by rw [HM8.out]; omega) hze ?_; intro v9 w9 hown9 hgrow9 hat9)
   have hB9 := hBe.grown hgrow9 hze (fun j hj => (hownE.lt j hj).1)
   rw [← List.map_append, ← HTL.out, ← List.length_append, HRES.out] at hown9
   go_ret
   exact ⟨v9, rfl, zd9 hown9 hB.size, hB.trans (hB9.mono hB.size)⟩
theorem Only.setNew {g : Nat} {w W : World} (h : Only g w W) (hg : g ≤ w.heap.size) {p : Addr} (hp : w.heap.size ≤ p.block) (v : Value) : Only g w (W.setCell p v) :=
 ⟨h.below.setCell (p := p) (Nat.le_trans hg hp) v, fun b hb hl => (Below.heap_setCell W p v b (by omega)).trans (h.other b hb hl)⟩
theorem Only.setRowNew {g : Nat} {w W : World} (h : Only g w W) (hg : g ≤ w.heap.size) {q : Nat} (hp : w.heap.size ≤ q) (cs : Array Value) : Only g w (W.setRow q cs) :=
 ⟨below_setRow h.below (Nat.le_trans hg hp) cs, fun b hb hl => (Go.setRow_other W q b cs (by omega)).trans (h.other b hb hl)⟩
theorem Only.laterBy {g : Nat} {w W W' : World} (h : Only g w W) (hg : g ≤ w.heap.size) (hb : Below w.heap.size W W') : Only g w W' :=
 ⟨h.below.trans (hb.mono hg), fun b hb1 hl => (hb.block b hl).trans (h.other b hb1 hl)⟩
theorem zgq (g : Nat) (k : Int) (S : List UInt8) (w : World) (h : RdRF g k S w) :
  Calls Tryz.prog 136 #[.pointer (some ⟨g, 0, none⟩)] w fun e w' => e = .returned (.agg #[.int .u64 ((useK k S).1.1 : Int), .int .u64 ((useK k S).1.2.1 : Int), .int .u64 ((useK k S).1.2.2 : Int)]) ∧ RdRF g (useK k S).2.1 (useK k S).2.2 w' ∧ Only g w w' := by
 obtain ⟨a, k1, S1, H1⟩ : ∃ x k' S', zaH k S = (x, k', S') := ⟨_, _, _, rfl⟩
 obtain ⟨b, k2, S2, H2⟩ : ∃ x k' S', zaH k1 S1 = (x, k', S') := ⟨_, _, _, rfl⟩
 obtain ⟨c, k3, S3, H3⟩ : ∃ x k' S', zaH k2 S2 = (x, k', S') := ⟨_, _, _, rfl⟩
 rw [zfk H1 H2 H3]
 dsimp only
 replace H1 := Lib.hid H1
 replace H2 := Lib.hid H2
 replace H3 := Lib.hid H3
 have hgl := h.lt
 obtain ⟨hR0, hR1, hB0⟩ := zaB w 57 57 [.int .u64 0, .int .u64 0, .int .u64 0] [.int .u64 0, .int .u64 0, .int .u64 0] _ _ rfl rfl
 have hOO := Only.later hB0 (Nat.le_of_lt hgl)
 have hT := h.below (hB0.mono (show g + 1 ≤ w.heap.size by omega))
 clear h hB0
 go_enter Tryz.func136, Tryz.ntmps136
 go_upto_region 2 with fail
 generalize (w.alloc (.cells [.int .u64 0, .int .u64 0, .int .u64 0].toArray 57)).alloc (.cells [.int .u64 0, .int .u64 0, .int .u64 0].toArray 57) = W0 at hR0 hR1 hOO hT ⊢
 go_wp2_with fail
 refine (zbb g k S W0 hT).mono ?_
 rw [H1.out]
 rintro e V1 ⟨rfl, hT1, hO⟩
 dsimp only at hT1 ⊢
 have hRa1 := hR1.only hO (by omega)
 have hRr1 := hR0.only hO (by omega)
 have hOO1 := hOO.trans hO
 have f0 := hRa1.frozen 0
 have c0 : V1.cell? ⟨w.heap.size + 1, 0, none⟩ = some (.int .u64 0) := hRa1.cell rfl
 have hs1 := hO.below.size
 clear hT hR1 hR0 hOO hO
 have hT := hT1.below ((Below.refl _ V1).setCell (p := ⟨w.heap.size + 1, 0, none⟩) (show g + 1 ≤ w.heap.size + 1 by omega) (.int .u64 (a : Int)))
 have hR1 : Row (V1.setCell ⟨w.heap.size + 1, 0, none⟩ (.int .u64 (a : Int))) (w.heap.size + 1) 57 [.int .u64 (a : Int), .int .u64 0, .int .u64 0] := hRa1.setCell 0 _
 have hR0 := hRr1.setCell_other (p := ⟨w.heap.size + 1, 0, none⟩) (by show w.heap.size ≠ w.heap.size + 1; omega) (.int .u64 (a : Int))
 have hOO : Only g w (V1.setCell ⟨w.heap.size + 1, 0, none⟩ (.int .u64 (a : Int))) := hOO1.setNew (Nat.le_of_lt hgl) (p := ⟨w.heap.size + 1, 0, none⟩) (by show w.heap.size ≤ w.heap.size + 1; omega) _
 have hq1 : w.heap.size + 2 ≤ (V1.setCell ⟨w.heap.size + 1, 0, none⟩ (.int .u64 (a : Int))).heap.size := by have := hR1.lt; omega
 go_upto_region 3 with fail
 clear hT1 hRa1 hRr1 hOO1 c0 f0 hs1
 generalize V1.setCell ⟨w.heap.size + 1, 0, none⟩ (.int .u64 (a : Int)) = W1 at hT hR1 hR0 hOO hq1 ⊢
 go_wp2_with fail
 refine (zbb g k1 S1 W1 hT).mono ?_
 rw [H2.out]
 rintro e V2 ⟨rfl, hT2, hO⟩
 dsimp only at hT2 ⊢
 have hRa2 := hR1.only hO (by omega)
 have hRr2 := hR0.only hO (by omega)
 have hOO2 := hOO.trans hO
 have f1 := hRa2.frozen 1
 have c1 : V2.cell? ⟨w.heap.size + 1, 1, none⟩ = some (.int .u64 0) := hRa2.cell rfl
 have hs2 := hO.below.size
 clear hT hR1 hR0 hOO hO
 have hT := hT2.below ((Below.refl _ V2).setCell (p := ⟨w.heap.size + 1, 1, none⟩) (show g + 1 ≤ w.heap.size + 1 by omega) (.int .u64 (b : Int)))
 have hR1 : Row (V2.setCell ⟨w.heap.size + 1, 1, none⟩ (.int .u64 (b : Int))) (w.heap.size + 1) 57 [.int .u64 (a : Int), .int .u64 (b : Int), .int .u64 0] := hRa2.setCell 1 _
 have hR0 := hRr2.setCell_other (p := ⟨w.heap.size + 1, 1, none⟩) (by show w.heap.size ≠ w.heap.size + 1; omega) (.int .u64 (b : Int))
 have hOO : Only g w (V2.setCell ⟨w.heap.size + 1, 1, none⟩ (.int .u64 (b : Int))) := hOO2.setNew (Nat.le_of_lt hgl) (p := ⟨w.heap.size + 1, 1, none⟩) (by show w.heap.size ≤ w.heap.size + 1; omega) _
 have hq2 : w.heap.size + 2 ≤ (V2.setCell ⟨w.heap.size + 1, 1, none⟩ (.int .u64 (b : Int))).heap.size := by have := hR1.lt; omega
 go_upto_region 4 with fail
 clear hT2 hRa2 hRr2 hOO2 c1 f1 hs2
 generalize V2.setCell ⟨w.heap.size + 1, 1, none⟩ (.int .u64 (b : Int)) = W2 at hT hR1 hR0 hOO hq2 ⊢
 go_wp2_with fail
 refine (zbb g k2 S2 W2 hT).mono ?_
 rw [H3.out]
 rintro e V3 ⟨rfl, hT3, hO⟩
 dsimp only at hT3 ⊢
 have hRa3 := hR1.only hO (by omega)
 have hRr3 := hR0.only hO (by omega)
 have hOO3 := hOO.trans hO
 have f2 := hRa3.frozen 2
 have c2 : V3.cell? ⟨w.heap.size + 1, 2, none⟩ = some (.int .u64 0) := hRa3.cell rfl
 have hs3 := hO.below.size
 clear hT hR1 hR0 hOO hO
 have hT := hT3.below ((Below.refl _ V3).setCell (p := ⟨w.heap.size + 1, 2, none⟩) (show g + 1 ≤ w.heap.size + 1 by omega) (.int .u64 (c : Int)))
 have hR1 : Row (V3.setCell ⟨w.heap.size + 1, 2, none⟩ (.int .u64 (c : Int))) (w.heap.size + 1) 57 [.int .u64 (a : Int), .int .u64 (b : Int), .int .u64 (c : Int)] := hRa3.setCell 2 _
 have hR0 := hRr3.setCell_other (p := ⟨w.heap.size + 1, 2, none⟩) (by show w.heap.size ≠ w.heap.size + 1; omega) (.int .u64 (c : Int))
 have hOO : Only g w (V3.setCell ⟨w.heap.size + 1, 2, none⟩ (.int .u64 (c : Int))) := hOO3.setNew (Nat.le_of_lt hgl) (p := ⟨w.heap.size + 1, 2, none⟩) (by show w.heap.size ≤ w.heap.size + 1; omega) _
 have hq3 : w.heap.size + 2 ≤ (V3.setCell ⟨w.heap.size + 1, 2, none⟩ (.int .u64 (c : Int))).heap.size := by have := hR1.lt; omega
 go_upto_region 5 with fail
 clear hT3 hRa3 hRr3 hOO3 c2 f2 hs3
 generalize V3.setCell ⟨w.heap.size + 1, 2, none⟩ (.int .u64 (c : Int)) = W3 at hT hR1 hR0 hOO hq3 ⊢
 go_wp2_with (first
  | (refine zac rfl 57 (.tmp 3) rfl (w.heap.size + 1) 0 rfl _ _ (hR1) ([.int .u64 (a : Int), .int .u64 (b : Int), .int .u64 (c : Int)]) (by rfl) _ Tryz.underlying57 rfl (by exact zaW) ?_)
  | (refine zab rfl 57 (.tmp 2) (.tmp 13) rfl (w.heap.size) rfl ([.int .u64 (a : Int), .int .u64 (b : Int), .int .u64 (c : Int)]) rfl _ _ (hR0) (by exact zaW) rfl (zaK _ _ _ rfl rfl rfl) ?_))
 refine bodyPost_ret (results_cell_row (p := 2) (ty := 57) (by rfl) _ _ w.heap.size 57 _ (0, 0) _ (by rfl) (by exact hR0.setRow _) Tryz.underlying57 (by rfl) (by exact zaW)) (by rfl) ?_
 exact ⟨rfl, hT.below (below_setRow (Below.refl _ _) (by omega) _), hOO.setRowNew (Nat.le_of_lt hgl) (Nat.le_refl _) _⟩
theorem zlw (b : List UInt8) : zhE ((zaE b).1, (zaE b).2.1, (zaE b).2.2.1) ∧ (zaE b).2.1.length ≤ 64 ∧ (zaE b).2.2.1.length ≤ 64 ∧ ∀ x ∈ (zaE b).2.1, x.2.2.length ≤ 32 := by
 obtain ⟨v, es, gs, m, k, hb⟩ : ∃ v es gs m k, zaE b = (v, es, gs, m, k) := ⟨_, _, _, _, _, rfl⟩
 by_cases h : k = 0
 ·subst h
  obtain ⟨g1, _, _, g2, g3, g4⟩ := zkc hb
  obtain ⟨h1, h2, h3⟩ := zhy.1 g1
  rw [hb]
  exact ⟨⟨g2, g3, g4⟩, h1, (zcO.1 h2).2, fun x hx => (zfQ h3 x hx).2⟩
 ·obtain ⟨rfl, rfl, rfl, _⟩ := zo5 hb h
  rw [hb]
  exact ⟨⟨by show (0 : Nat) < _; decide, (fun x hx => by cases hx), (fun x hx => by cases hx)⟩, Nat.zero_le _, Nat.zero_le _, (fun x hx => by cases hx)⟩
theorem zpx {k e k2 kE : Int} {S S' T : List UInt8} {v q : Nat} {es : List En} {gs : List Gn} (hS : k = 0 → S' = S) (hr : zaE S' = (v, es, gs, q, e)) (h2 : (zcy q (zdj k e) S).2 = (k2, T)) (hE : endK k2 T = kE) : BunK k S kE (v, es, gs) := by
 refine ⟨fun hk => ?_, fun hk => ?_⟩
 ·unfold zdj zcy at h2
  rw [if_neg hk, if_neg hk] at h2
  injection h2 with e1 e2
  subst e1 e2
  rw [← hE]
  unfold endK
  rw [if_neg (fun h => hk h.1)]
 ·have eS := hS hk
  subst eS hk
  unfold zdj at h2
  rw [if_pos rfl] at h2
  unfold allB
  rw [hr]
  dsimp only
  by_cases he : e = 0
  ·subst he
   unfold zcy at h2
   rw [if_pos rfl] at h2
   by_cases hq : S'.length < q
   ·rw [if_pos hq] at h2
    injection h2 with e1 e2
    subst e1 e2
    refine .inr ⟨by rw [← hE]; unfold endK; rw [if_neg (fun h => absurd h.1 (by decide))]; decide, ?_⟩
    rw [if_neg (fun h => by omega)]
   ·rw [if_neg hq] at h2
    injection h2 with e1 e2
    subst e1 e2
    by_cases hl : q = S'.length
    ·refine .inl ⟨?_, ?_⟩
     ·rw [← hE]
      unfold endK
      rw [if_neg (fun h => h.2 (List.drop_eq_nil_of_le (by omega)))]
     ·rw [if_pos ⟨rfl, hl⟩]
    ·refine .inr ⟨?_, ?_⟩
     ·rw [← hE]
      unfold endK
      rw [if_pos ⟨rfl, fun h => by have := congrArg List.length h; rw [List.length_drop, List.length_nil] at this; omega⟩]
      decide
     ·rw [if_neg (fun h => hl h.2)]
  ·unfold zcy at h2
   rw [if_neg he] at h2
   injection h2 with e1 e2
   subst e1 e2
   refine .inr ⟨?_, ?_⟩
   ·rw [← hE]
    unfold endK
    rw [if_neg (fun h => he h.1)]
    exact he
   ·rw [if_neg (fun h => he h.1)]
def zql (g : Nat) (k : Int) (S : List UInt8) (w : World) (e : Ending) (w' : World) : Prop :=
 ∃ x b kE v, e = .returned (zdY x b) ∧ InB w' x b ∧ FreshB w.heap.size x ∧ BunK k S kE b ∧ Row w' g 186 [v, .int .i64 kE] ∧ Only g w w'
theorem zeo (g : Nat) (k : Int) (S : List UInt8) (w : World) (h : RdRF g k S w) :
  Calls Tryz.prog 137 #[.pointer (some ⟨g, 0, none⟩)] w (zql g k S w) := by
 have hgl := h.lt
 have hgl2 := Nat.le_of_lt hgl
 obtain ⟨hR0, hB0⟩ := zat w 32 l0B _ rfl
 have hOO := Only.later hB0 hgl2
 have hT := h.below (hB0.mono (show g + 1 ≤ w.heap.size by omega))
 clear h
 go_enter Tryz.func137, Tryz.ntmps137
 go_upto_region 1 with fail
 generalize (w.alloc (.cells l0B.toArray 32)) = W0 at hR0 hOO hT ⊢
 obtain ⟨S', n, ⟨A, c, hRg, HN, hc, hr, hA⟩, hn, hS'⟩ := id hT
 have HS' := Lib.hid hS'
 have cg : W0.cell? ⟨g, 0, none⟩ = some (.slice A n c) := hRg.cell rfl
 have HBR := Lib.hid (ziJ S' n c A W0 HN hr hn hc)
 have HOKB := Lib.hid (zlw S')
 obtain ⟨v, es, gs, q, er, hX⟩ : ∃ v es gs q er, zaE S' = (v, es, gs, q, er) := ⟨_, _, _, _, _, rfl⟩
 rw [hX] at HBR HOKB
 have HX := Lib.hid hX
 obtain ⟨T, k2, hnx⟩ : ∃ T k2, (zcy q (zdj k er) S).2 = (k2, T) := ⟨_, _, rfl⟩
 have HNX := Lib.hid hnx
 clear hX hnx hS' hr hRg hA
 go_wp2_with fail
 refine HBR.out.mono ?_
 rintro e w1 ⟨eA, xs, ne, ec, gA, m, gc, rfl, HC, HNE, HM, hec, hgc, hre, hoe, hrg, ⟨hfe, hfs, hfg⟩, hb1⟩
 unfold aggB
 dsimp only at HC HM hrg HOKB ⊢
 have hIn : InB w1 ⟨xs, eA, ne, ec, gA, m, gc⟩ (v, es, gs) := ⟨HC.out, HNE.out, HM.out, hec, hgc, hre, hoe, hrg, by
   show ne ≤ 1000000
   have := HOKB.out.2.1
   rw [← HC.out, zaF, HNE.out] at this
   omega, by
   show m ≤ 1000000
   have := HOKB.out.2.2.1
   rw [HM.out] at this
   omega, fun y hy => by
   have := HOKB.out.2.2.2 y.con (by rw [← HC.out]; exact List.mem_map.2 ⟨y, hy, rfl⟩)
   have e1 : y.con.2.2 = y.s := rfl
   rw [e1] at this
   omega, HOKB.out.1⟩
 have hFr : FreshB W0.heap.size ⟨xs, eA, ne, ec, gA, m, gc⟩ := ⟨hfe, hfs, hfg⟩
 have hW0 := hR0.lt
 have hT1 := hT.below (hb1.mono (show g + 1 ≤ W0.heap.size by omega))
 have hOO1 := hOO.laterBy hgl2 (hb1.mono (Nat.le_of_lt hW0))
 have hR01 := hR0.later hb1
 have hs1 := hb1.size
 obtain ⟨hRx, hBx⟩ := zat w1 32 l0B _ rfl
 clear hre hoe hrg hfe hfs hfg hb1 HBR HOKB hT hOO hR0 cg
 go_upto_region 2 with (refine zab rfl 32 (.tmp 3) (.tmp 12) rfl (w1.heap.size) rfl ([.int .u64 (v : Int), .slice eA ne ec, .slice gA m gc]) rfl _ _ (hRx) (by exact zax) rfl (zaK _ _ _ rfl rfl rfl) ?_)
 have hRx2 := hRx.setRow [.int .u64 (v : Int), .slice eA ne ec, .slice gA m gc]
 have hbn := below_setRow hBx (Nat.le_refl _) [.int .u64 (v : Int), .slice eA ne ec, .slice gA m gc].toArray
 clear hRx hBx
 generalize (w1.alloc (.cells l0B.toArray 32)).setRow w1.heap.size [.int .u64 (v : Int), .slice eA ne ec, .slice gA m gc].toArray = wb at hRx2 hbn ⊢
 have hIn2 := hIn.keep hbn
 have hT2 := hT1.below (hbn.mono (show g + 1 ≤ w1.heap.size by omega))
 have hOO2 := hOO1.laterBy hgl2 (hbn.mono (by omega))
 have hR02 := hR01.later hbn
 have hgx : W0.heap.size ≤ w1.heap.size := hs1
 clear hIn hT1 hOO1 hR01 hbn hs1
 generalize w1.heap.size = gx at hRx2 hgx ⊢
 go_wp2_with fail
 refine (zfK g k er S wb hT2).mono ?_
 rintro e w2 ⟨rfl, hT3, hO⟩
 have hIn3 := hIn2.only hO (hFr.mono (by omega))
 have hRx3 := hRx2.only hO (by omega)
 have hR03 := hR02.only hO (by omega)
 have hOO3 := hOO2.trans hO
 clear hIn2 hT2 hOO2 hR02 hRx2 hO
 go_wp2_with fail
 refine (zfL g q (zdj k er) S w2 hT3).mono ?_
 rintro e w3 ⟨A4, q4, c4, rfl, HQ4, hq4, hqc4, hr4, hT4, hO⟩
 rw [show (zcy q (zdj k er) S).2.1 = k2 from by rw [HNX.out], show (zcy q (zdj k er) S).2.2 = T from by rw [HNX.out]] at hT4
 have hIn4 := hIn3.only hO (hFr.mono (by omega))
 have hRx4 := hRx3.only hO (by omega)
 have hR04 := hR03.only hO (by omega)
 have hOO4 := hOO3.trans hO
 clear hIn3 hT3 hOO3 hR03 hRx3 hO hr4 HQ4 hq4 hqc4
 go_wp2_with fail
 refine (zkt g k2 T w3 hT4).mono ?_
 rintro e w4 ⟨rfl, ⟨vg, hRg⟩, hO⟩
 have hIn5 := hIn4.only hO (hFr.mono (by omega))
 have hRx5 := hRx4.only hO (by omega)
 have hR05 := hR04.only hO (by omega)
 have hOO5 := hOO4.trans hO
 clear hIn4 hT4 hOO4 hR04 hRx4 hO
 go_wp2_with (first
  | (refine zac rfl 32 (.tmp 3) rfl (gx) 0 rfl _ _ (hRx5) ([.int .u64 (v : Int), .slice eA ne ec, .slice gA m gc]) (by rfl) _ Tryz.underlying32 rfl (by exact zax) ?_)
  | (refine zab rfl 32 (.tmp 2) (.tmp 23) rfl (w.heap.size) rfl ([.int .u64 (v : Int), .slice eA ne ec, .slice gA m gc]) rfl _ _ (hR05) (by exact zax) rfl (zaK _ _ _ rfl rfl rfl) ?_))
 refine bodyPost_ret (results_cell_row (p := 2) (ty := 32) (by rfl) _ _ w.heap.size 32 _ (0, 0) _ (by rfl) (by exact hR05.setRow _) Tryz.underlying32 (by rfl) (by exact zax)) (by rfl) ?_
 have hO6 := (Only.refl w.heap.size w4).setRow [.int .u64 (v : Int), .slice eA ne ec, .slice gA m gc].toArray
 exact ⟨⟨xs, eA, ne, ec, gA, m, gc⟩, (v, es, gs), endK k2 T, vg, rfl, hIn5.only hO6 (hFr.mono (by omega)), hFr.mono (by omega), zpx HS'.out HX.out HNX.out rfl, hRg.only hO6 (by omega), hOO5.setRowNew hgl2 (Nat.le_refl _) _⟩
section
variable {P : Program} {ops : Array Oper} {Q : Exit → Act → World → Prop}
theorem zlx {S : World → Prop} (hg : zeQ ops = true) (hn : 0 < ops.size) (hdep : (List.range ops.size).all (fun i => (zbz ops i).all (fun j => decide (j < i))) = true) (hlast : (List.range (ops.size - 1)).all (fun j => (zbz ops (ops.size - 1)).contains j || (zbz ops (ops.size - 1)).any (fun k => (zbz ops k).contains j)) = true) :
  ∀ (fuel : Nat) (L M : Array Bool) (a : Act) (w : World), L.size = ops.size → M.size = ops.size - 1 → (∀ i, i < ops.size - 1 → M.getD i false = L.getD i false) → L.getD (ops.size - 1) false = false → (∀ k, L.getD k false = true → ∀ j ∈ zbz ops k, L.getD j false = true) → wpAnyH P .any (zbo ops) (zgc P ops Q) S fuel M a w → wpAny P .any ops Q (fuel + 1) L a w := by
 have hdi : (List.range (zbo ops).size).all (fun i => (zbz (zbo ops) i).all (fun j => decide (j < i))) = true := by
  rw [zbg]
  refine List.all_eq_true.2 (fun i hi => ?_)
  have hi' := List.mem_range.1 hi
  rw [zcN ops i hi']
  exact List.all_eq_true.1 hdep i (List.mem_range.2 (by omega))
 have done : ∀ (fuel : Nat) (L : Array Bool) (a : Act) (w : World), L.size = ops.size → (∀ i, i < ops.size → L.getD i false = true) → Q .normal a w → wpAny P .any ops Q fuel L a w := by
  intro fuel L a w hL hall hq
  have hnil : Region.ready .any ops L = [] := by
   refine List.eq_nil_iff_forall_not_mem.2 (fun i hi => ?_)
   obtain ⟨h1, h2, _⟩ := zbX hi
   rw [zdS (by omega), hall i h1] at h2
   cases h2
  cases fuel with
  | zero => exact ⟨hnil, hq⟩
  | succ f => exact ⟨fun _ => hq, fun i hi => by rw [hnil] at hi; cases hi⟩
 have final : ∀ (fuel : Nat) (L M : Array Bool) (a : Act) (w : World), L.size = ops.size → M.size = ops.size - 1 → (∀ i, i < ops.size - 1 → M.getD i false = L.getD i false) → L.getD (ops.size - 1) false = false → Region.ready .any (zbo ops) M = [] → zgc P ops Q .normal a w → wpAny P .any ops Q (fuel + 1) L a w := by
  intro fuel L M a w hL hM hLM hl hr hq
  have hall := ziz hdi (by rw [zbg]; exact hM) hr
  rw [zbg] at hall
  have hmem : ops.size - 1 ∈ Region.ready .any ops L := zdz (by omega) (by omega) hl (fun j hj => by
   have h1 := List.all_eq_true.1 hdep (ops.size - 1) (List.mem_range.2 (by omega))
   have hlt := of_decide_eq_true (List.all_eq_true.1 h1 _ hj)
   rw [← hLM j hlt]
   exact hall j hlt)
  refine ⟨fun hnil => (by rw [hnil] at hmem; cases hmem), fun i hi => ?_⟩
  obtain ⟨h1, h2, _⟩ := zbX hi
  have hin : i = ops.size - 1 := by
   by_cases e : i = ops.size - 1
   ·exact e
   ·rw [zdS (by omega), ← hLM i (by omega), hall i (by omega)] at h2
    cases h2
  subst hin
  refine wpOp_mono (fun a' w' hq' => done fuel _ a' w' (by simp [hL]) (fun j hj => ?_) hq') hq
  have hjl : j < L.size := by omega
  by_cases e : j = ops.size - 1
  ·subst e
   simp [Array.getD, hjl]
  ·have e2 : ops.size - 1 ≠ j := fun h => e h.symm
   have := (hLM j (by omega)).symm.trans (hall j (by omega))
   simp [Array.getD, hjl] at this
   simp [Array.getD, hjl, Array.getElem_setIfInBounds, e2, this]
 intro fuel
 induction fuel with
 | zero =>
  intro L M a w hL hM hLM hl hcl h
  exact final 0 L M a w hL hM hLM hl h.1 h.2
 | succ f ih =>
  intro L M a w hL hM hLM hl hcl h
  by_cases hr : Region.ready .any (zbo ops) M = []
  ·exact final (f + 1) L M a w hL hM hLM hl hr (h.1 hr)
  ·obtain ⟨x, hx⟩ := List.exists_mem_of_ne_nil _ hr
   obtain ⟨x1, x2, x3⟩ := zbX hx
   rw [zbg] at x1
   rw [zcN ops x x1] at x3
   rw [zdS (by omega)] at x2
   have hxr : x ∈ Region.ready .any ops L := zdz (by omega) (by omega) (by rw [← hLM x x1]; exact x2) (fun j hj => by
    have h1 := List.all_eq_true.1 hdep x (List.mem_range.2 (by omega))
    have hlt := of_decide_eq_true (List.all_eq_true.1 h1 _ hj)
    rw [← hLM j (by omega)]
    exact x3 j hj)
   refine ⟨fun hnil => (by rw [hnil] at hxr; cases hxr), fun i hi => ?_⟩
   obtain ⟨h1, h2, h3⟩ := zbX hi
   have hin : i < ops.size - 1 := by
    by_cases e : i = ops.size - 1
    ·subst e
     have hxm := List.all_eq_true.1 hlast x (List.mem_range.2 x1)
     have hx0 : L.getD x false = false := by rw [← hLM x x1]; exact x2
     rcases (Bool.or_eq_true _ _).mp hxm with hxm | hxm
     ·have h4 := h3 x (by simpa using hxm)
      dsimp only at h4
      rw [hx0] at h4
      cases h4
     ·obtain ⟨k, hk1, hk2⟩ := List.any_eq_true.1 hxm
      have h4 := hcl k (h3 k hk1) x (by simpa using hk2)
      rw [hx0] at h4
      cases h4
    ·omega
   have hii : i ∈ Region.ready .any (zbo ops) M := zdz (by rw [zbg]; exact hin) (by omega) (by rw [hLM i hin]; rw [zdS (by omega)] at h2; exact h2) (fun j hj => by
    rw [zcN ops i hin] at hj
    have h5 := List.all_eq_true.1 hdep i (List.mem_range.2 h1)
    have hlt := of_decide_eq_true (List.all_eq_true.1 h5 _ hj)
    rw [hLM j (by omega)]
    exact h3 j hj)
   have hop := h.2 i hii
   have hK : ∀ a' w', (S w' ∧ wpAnyH P .any (zbo ops) (zgc P ops Q) S f (M.setIfInBounds i true) a' w') → wpAny P .any ops Q (f + 1) (L.setIfInBounds i true) a' w' := fun a' w' hk =>
    ih (L.setIfInBounds i true) (M.setIfInBounds i true) a' w' (by simp [hL]) (by simp [hM]) (fun j hj => by
     have hjl : j < L.size := by omega
     have hjm : j < M.size := by omega
     have := hLM j hj
     simp [Array.getD, hjl, hjm] at this
     by_cases e : i = j
     ·subst e
      simp [Array.getD, hjl, hjm]
     ·simp [Array.getD, hjl, hjm, Array.getElem_setIfInBounds, e, this]) (by
     have hjl : ops.size - 1 < L.size := by omega
     have e : i ≠ ops.size - 1 := by omega
     simp [Array.getD, hjl] at hl
     simp [Array.getD, hjl, Array.getElem_setIfInBounds, e, hl]) (fun k hk' j hj => by
     have hset : ∀ m, L.getD m false = true → (L.setIfInBounds i true).getD m false = true := fun m hm => by
      by_cases hml : m < L.size
      ·by_cases e : i = m
       ·subst e
        simp [Array.getD, hml]
       ·simp [Array.getD, hml] at hm
        simp [Array.getD, hml, Array.getElem_setIfInBounds, e, hm]
      ·simp [Array.getD, hml] at hm
     by_cases e : i = k
     ·subst e
      exact hset j (h3 j hj)
     ·refine hset j (hcl k ?_ j hj)
      by_cases hkl : k < L.size
      ·simp [Array.getD, hkl, Array.getElem_setIfInBounds, e] at hk'
       simp [Array.getD, hkl, hk']
      ·simp [Array.getD, hkl] at hk') hk.2
   unfold wpOp at hop ⊢
   rw [zeP ops i hin] at hop
   cases hoi : ops[i]? with
   | none =>
    rw [hoi] at hop
    exact hK _ _ hop
   | some o =>
    rw [hoi] at hop
    dsimp only at hop ⊢
    by_cases hw : Region.wanted o (yielded ops a.tmps) = true
    ·have hwi : Region.wanted o (yielded (zbo ops) a.tmps) = true := by rw [← zdA ops hg i o hoi a.tmps]; exact hw
     rw [if_pos hwi] at hop
     rw [if_pos hw]
     rcases hop with h6 | ⟨_, h6⟩
     ·exact .inl (zgd (Oper.wp_mono hK h6))
     ·exact (zfg h6).elim
    ·have hwi : ¬ Region.wanted o (yielded (zbo ops) a.tmps) = true := by rw [← zdA ops hg i o hoi a.tmps]; exact hw
     rw [if_neg hwi] at hop
     rw [if_neg hw]
     exact hK _ _ hop
theorem zgr (S : World → Prop) (plan : Plan) {id : Nat} {a : Act} {w : World} (hS : S w.drew) (hm : P.follows .mixedOrders = true) (hs : Region.noSelect (zbo ops) = true) (hg : zeQ ops = true) (hn : 0 < ops.size) (hdep : (List.range ops.size).all (fun i => (zbz ops i).all (fun j => decide (j < i))) = true) (hlast : (List.range (ops.size - 1)).all (fun j => (zbz ops (ops.size - 1)).contains j || (zbz ops (ops.size - 1)).any (fun k => (zbz ops k).contains j)) = true)
  (hlen : plan.size = (zbo ops).size) (hp : zcB (zbo ops) plan (Array.replicate (zbo ops).size false) = true) (h : za1 P (zbo ops) (zgc P ops Q) plan S a w.drew) : (Code.region id ops true).wp P Q a w := by
 refine wp_region_any hm ?_
 have h1 := zba hs (fun _ _ _ _ _ h => h) plan S _ a w.drew hS hp h
 rw [hlen, zbg] at h1
 have h2 := zlx (Q := Q) (S := S) hg hn hdep hlast (ops.size - 1) (Array.replicate ops.size false) (Array.replicate (ops.size - 1) false) a w.drew (by simp) (by simp) (fun i hi => by
  have : i < ops.size := by omega
  simp [Array.getD, hi, this]) (by
  have : ops.size - 1 < ops.size := by omega
  simp [Array.getD, this]) (fun k hk => by
  simp [Array.getD] at hk) h1
 rw [show ops.size - 1 + 1 = ops.size by omega] at h2
 exact h2
end
theorem zfH {fn : Func} {p u v : Tmp} {ty : TypeId} (h : fn.results = #[.tmp u, .cell p ty, .tmp v]) (tmps : Array Value) (P : Program) (w : World) :
  (results fn tmps).run P w = ((asAddr (tmps.getD p undef)).run P w).andThen fun a w₁ => ((loadVar ty a).run P w₁).andThen fun x w₂ => .ok (.tuple #[tmps.getD u undef, x, tmps.getD v undef]) w₂ := by
 simp only [results, h]
 simp [Sem.run_bind, Result.andThen]
theorem zgs {P : Program} {fn : Func} {p u v : Tmp} {ty : TypeId} (h : fn.results = #[.tmp u, .cell p ty, .tmp v]) (tmps : Array Value) (w : World) (g : Nat) (t : TypeId) (l : List Value) (d : TypeDesc) (hp : tmps.getD p undef = .pointer (some ⟨g, 0, none⟩)) (hg : Row w g t l)
  (hu : P.underlying ty = some d) (hd : d.isRow = true) (hi : (P.info? ty).map (·.size) = some l.length) : (results fn tmps).run P w = .ok (.tuple #[tmps.getD u undef, .agg l.toArray, tmps.getD v undef]) w := by
 rw [zfH h, hp]
 simp only [asAddr, Sem.run_pure, Result.andThen_ok, hg.loadVar (P := P) ty d hu hd hi]
theorem ziP : ∀ (q : Nat) (k : Int) (S : List UInt8), fitU (zcq q k S).1
 | 0, _, _ => fun x hx => by cases hx
 | q + 1, k, S => fun x hx => by
  rcases List.mem_cons.1 hx with rfl | hx
  ·exact zkv k S
  ·exact ziP q _ _ x hx
theorem ziQ : ∀ (q : Nat) (k : Int) (S : List UInt8), (zcq q k S).1.length = q
 | 0, _, _ => rfl
 | q + 1, k, S => by
  show ((zcq q _ _).1).length + 1 = q + 1
  rw [ziQ q _ _]
theorem ziR {B g : Nat} {e : TypeId} {v : Value} {n : Nat} {xs : List Value} {w w' : World} (h : w.ownsRow B e 3 v n xs) (k : Only g w w') (hg : g < B) : w'.ownsRow B e 3 v n xs := zaT h (fun b hb hl => k.other b (by omega) hl)
def RmI (q : Nat) (k5 : Int) (S5 : List UInt8) (c rm fl : Nat) (w : World) (g1 gm B : Nat) (i : Value) (wr : World) : Prop :=
 ∃ (j : Nat) (l : List Us) (u : Value) (kk : Int) (S : List UInt8), i = .int .i64 (j : Int) ∧ j ≤ q ∧ Hid (l.length = j) ∧ Hid (zcq q k5 S5 = (l ++ (zcq (q - j) kk S).1, (zcq (q - j) kk S).2)) ∧ Row wr w.heap.size 37 l0M ∧ Row wr gm 37 [.int .u64 (c : Int), .int .u64 0, .slice none 0 0, .slice none 0 0, .int .i64 (rm : Int), .int .u64 (fl : Int), u] ∧
  wr.ownsRow B 57 3 u j (zar l) ∧ RdRF g1 kk S wr ∧ Below w.heap.size w wr ∧ B ≤ wr.heap.size
theorem zoz (g : Nat) (v : Value) (k e : Int) (w : World) (hR : Row w g 186 [v, .int .i64 k]) :
  Calls Tryz.prog 138 #[.pointer (some ⟨g, 0, none⟩), .int .i64 e] w fun e₁ w' => e₁ = .returned (.tuple #[]) ∧ Row w' g 186 [v, .int .i64 (zdj k e)] ∧ Only g w w' := by
 by_cases hk : k = 0
 ·subst hk
  exact zge g v e w hR
 ·refine (zeR g v k e w hR hk).mono ?_
  rintro e₁ w' ⟨rfl, rfl⟩
  unfold zdj
  rw [if_neg hk]
  exact ⟨rfl, hR, Only.refl g w⟩
theorem ziS {R : Bool} {k : Int} : finK R k = 0 ↔ R = true ∧ k = 0 := by
 unfold finK zdj
 cases R with
 | true => simp
 | false =>
  by_cases h : k = 0
  ·simp [h]
  ·simp [h]
def memT (g : Nat) (v : Value) (W : World) : Prop := W.cell? ⟨g, 6, none⟩ = some v ∧ True
def zqm (w : World) (b : List UInt8) (e : Ending) (w' : World) : Prop :=
 ∃ x m num er, e = .returned (.tuple #[.int .u64 ((num : Nat) : Int), aggM x m, .int .i64 er]) ∧ InM w' x m ∧ FreshM w.heap.size x ∧ num < 18446744073709551616 ∧ Hid (er = 0 → za2 b = some (num, m)) ∧ Hid (er ≠ 0 → za2 b = none) ∧ Below w.heap.size w w'
def memR (g g1 : Nat) (a b c d e f h k : Value) (W : World) : Prop := W.cell? ⟨g1, 1, none⟩ = some k ∧ (W.cell? ⟨g, 0, none⟩ = some a ∧ (W.cell? ⟨g, 1, none⟩ = some b ∧ (W.cell? ⟨g, 2, none⟩ = some c ∧ (W.cell? ⟨g, 3, none⟩ = some d ∧ (W.cell? ⟨g, 4, none⟩ = some e ∧ (W.cell? ⟨g, 5, none⟩ = some f ∧ W.cell? ⟨g, 6, none⟩ = some h))))))
theorem zfl {g g1 : Nat} {t t1 : TypeId} {v a b c d e f h k : Value} {W : World} (hX : Row W g t [a, b, c, d, e, f, h]) (hG : Row W g1 t1 [v, k]) : memR g g1 a b c d e f h k W := ⟨hG.cell rfl, hX.cell rfl, hX.cell rfl, hX.cell rfl, hX.cell rfl, hX.cell rfl, hX.cell rfl, hX.cell rfl⟩
theorem zjZ (b : List UInt8) (n : Nat) (A : Option Addr) (c0 : Nat) (w : World) (HN : Hid (b.length = n)) (hr : Rd vB w A b) (hc : n ≤ c0) (hn : n ≤ 1000000) :
  Calls Tryz.prog 97 #[.slice A n c0] w (zqm w b) := by
 obtain ⟨i0, hi, hz0, hz1, hz2⟩ := info_parts zec
 obtain ⟨k0, S0, H0⟩ : ∃ k S, zeS 77 b = (k, S) := ⟨_, _, rfl⟩
 obtain ⟨num, k1, S1, H1⟩ : ∃ x k S, zaH k0 S0 = (x, k, S) := ⟨_, _, _, rfl⟩
 obtain ⟨c, k2, S2, H2⟩ : ∃ x k S, zaH k1 S1 = (x, k, S) := ⟨_, _, _, rfl⟩
 obtain ⟨rm, k3, S3, H3⟩ : ∃ x k S, oneK k2 S2 = (x, k, S) := ⟨_, _, _, rfl⟩
 obtain ⟨fl, k4, S4, H4⟩ : ∃ x k S, zaH k3 S3 = (x, k, S) := ⟨_, _, _, rfl⟩
 obtain ⟨q, k5, S5, H5⟩ : ∃ x k S, oneK k4 S4 = (x, k, S) := ⟨_, _, _, rfl⟩
 obtain ⟨l6, k6, S6, H6⟩ : ∃ x k S, zcq q k5 S5 = (x, k, S) := ⟨_, _, _, rfl⟩
 have hnum : num < 18446744073709551616 := by have := zdZ k0 S0; rw [H1] at this; exact this
 have hclk : c < 18446744073709551616 := by have := zdZ k1 S1; rw [H2] at this; exact this
 have hflr : fl < 18446744073709551616 := by have := zdZ k3 S3; rw [H4] at this; exact this
 have hrm : rm < 256 := by have := zjE k2 S2; rw [H3] at this; exact this
 have hq : q < 256 := by have := zjE k4 S4; rw [H5] at this; exact this
 have HFU : Hid (fitU l6) := by have := ziP q k5 S5; rw [H6] at this; exact this
 have HLU : Hid (l6.length = q) := by have := ziQ q k5 S5; rw [H6] at this; exact this
 have HST : Hid (∀ {k7 : Int} {x : Bn}, BunK k6 S6 k7 x → za2 b = if k7 = 0 then (if zaX ⟨c, x, ((rm : Int), fl, l6)⟩ = true then some (num, ⟨c, x, ((rm : Int), fl, l6)⟩) else none) else none) := fun h7 => zm6 H0 H1 H2 H3 H4 H5 H6 h7
 replace H0 := Lib.hid H0
 replace H1 := Lib.hid H1
 replace H2 := Lib.hid H2
 replace H3 := Lib.hid H3
 replace H4 := Lib.hid H4
 replace H5 := Lib.hid H5
 replace H6 := Lib.hid H6
 have hA := hr.off
 have hR0 : Row (((w.alloc (.cells l0M.toArray 37)).alloc (.cells #[.slice A n c0, .int .i64 0] 186)).alloc (.cells l0M.toArray 37)) w.heap.size 37 l0M := ((Row.new w _ _ _ rfl).alloc _).alloc _
 have hR1 : Row (((w.alloc (.cells l0M.toArray 37)).alloc (.cells #[.slice A n c0, .int .i64 0] 186)).alloc (.cells l0M.toArray 37)) (w.heap.size + 1) 186 [.slice A n c0, .int .i64 0] := (Row.new_at _ _ (by simp) _ _ _ rfl).alloc _
 have hR2 : Row (((w.alloc (.cells l0M.toArray 37)).alloc (.cells #[.slice A n c0, .int .i64 0] 186)).alloc (.cells l0M.toArray 37)) (w.heap.size + 1 + 1) 37 l0M := Row.new_at _ _ (by simp) _ _ _ rfl
 have hB := zak (zak (zak (Below.refl _ w) (.cells l0M.toArray 37)) (.cells #[.slice A n c0, .int .i64 0] 186)) (.cells l0M.toArray 37)
 go_enter Tryz.func97, Tryz.ntmps97
 go_upto_region 3 with fail
 generalize ((w.alloc (.cells l0M.toArray 37)).alloc (.cells #[.slice A n c0, .int .i64 0] 186)).alloc (.cells l0M.toArray 37) = W0 at hR0 hR1 hR2 hB ⊢
 have hS : RdS (w.heap.size + 1) b n 0 W0 := ⟨A, c0, hR1, HN, hc, hr.keep hB, fun h0 a ha => by have := hA h0 a ha; omega⟩
 clear hr hA hR1
 obtain ⟨g0, hg0⟩ : ∃ g, g = w.heap.size := ⟨_, rfl⟩
 obtain ⟨g1, hg1⟩ : ∃ g, g = w.heap.size + 1 := ⟨_, rfl⟩
 obtain ⟨gm, hgm⟩ : ∃ g, g = w.heap.size + 1 + 1 := ⟨_, rfl⟩
 rw [← hg1] at hS
 rw [← hgm] at hR2
 rw [← hgm, ← hg1]
 have HG1 := Lib.hid hg1
 have HGM := Lib.hid hgm
 have l01 : w.heap.size < g1 := by omega
 have l1m : g1 < gm := by omega
 clear hg1 hgm hg0 g0
 go_wp2_with fail
 refine (zks 77 77 rfl (by decide) g1 b n W0 hS hn).mono ?_
 rw [H0.out]
 rintro e V0 ⟨rfl, hT, hO⟩
 dsimp only at hT
 replace hR0 := hR0.only hO (by omega)
 replace hR2 := hR2.only hO (by omega)
 replace hB := hB.trans (hO.below.mono (by omega))
 clear hO hS
 go_wp2_with fail
 refine (zbb g1 k0 S0 V0 hT).mono ?_
 rw [H1.out]
 rintro e V1 ⟨rfl, hT1, hO⟩
 dsimp only at hT1 ⊢
 replace hR0 := hR0.only hO (by omega)
 replace hR2 := hR2.only hO (by omega)
 replace hB := hB.trans (hO.below.mono (by omega))
 clear hO hT
 go_wp2_with fail
 refine (zbb g1 k1 S1 V1 hT1).mono ?_
 rw [H2.out]
 rintro e V2 ⟨rfl, hV2, hO⟩
 dsimp only at hV2 ⊢
 replace hR0 := hR0.only hO (by omega)
 replace hR2 := hR2.only hO (by omega)
 replace hB := hB.trans (hO.below.mono (by omega))
 clear hO hT1
 have f0 := hR2.frozen 0
 have c0 : V2.cell? ⟨gm, 0, none⟩ = some (.int .u64 0) := hR2.cell rfl
 have hT := hV2.below ((Below.refl _ V2).setCell (p := ⟨gm, 0, none⟩) (show g1 + 1 ≤ gm by omega) (.int .u64 (c : Int)))
 have hR2' : Row (V2.setCell ⟨gm, 0, none⟩ (.int .u64 (c : Int))) gm 37 [.int .u64 (c : Int), .int .u64 0, .slice none 0 0, .slice none 0 0, .int .i64 0, .int .u64 0, .slice none 0 0] := hR2.setCell 0 _
 have hR0' := hR0.setCell_other (p := ⟨gm, 0, none⟩) (by show w.heap.size ≠ gm; omega) (.int .u64 (c : Int))
 have hB' := hB.setCell (p := ⟨gm, 0, none⟩) (by show w.heap.size ≤ gm; omega) (.int .u64 (c : Int))
 go_upto_region 6 with fail
 clear hV2 hR2 hR0 hB f0 c0
 generalize V2.setCell ⟨gm, 0, none⟩ (.int .u64 (c : Int)) = U0 at hT hR2' hR0' hB' ⊢
 have hR2 := hR2'
 have hR0 := hR0'
 have hB := hB'
 clear hR2' hR0' hB'
 go_wp2_with fail
 refine (zgf g1 k2 S2 U0 hT).mono ?_
 rw [H3.out]
 rintro e V3 ⟨rfl, hV3, hO⟩
 dsimp only at hV3 ⊢
 replace hR0 := hR0.only hO (by omega)
 replace hR2 := hR2.only hO (by omega)
 replace hB := hB.trans (hO.below.mono (by omega))
 clear hO hT
 have f4 := hR2.frozen 4
 have c4 : V3.cell? ⟨gm, 4, none⟩ = some (.int .i64 0) := hR2.cell rfl
 have hT := hV3.below ((Below.refl _ V3).setCell (p := ⟨gm, 4, none⟩) (show g1 + 1 ≤ gm by omega) (.int .i64 (rm : Int)))
 have hR2' : Row (V3.setCell ⟨gm, 4, none⟩ (.int .i64 (rm : Int))) gm 37 [.int .u64 (c : Int), .int .u64 0, .slice none 0 0, .slice none 0 0, .int .i64 (rm : Int), .int .u64 0, .slice none 0 0] := hR2.setCell 4 _
 have hR0' := hR0.setCell_other (p := ⟨gm, 4, none⟩) (by show w.heap.size ≠ gm; omega) (.int .i64 (rm : Int))
 have hB' := hB.setCell (p := ⟨gm, 4, none⟩) (by show w.heap.size ≤ gm; omega) (.int .i64 (rm : Int))
 go_upto_region 7 with fail
 clear hV3 hR2 hR0 hB f4 c4
 generalize V3.setCell ⟨gm, 4, none⟩ (.int .i64 (rm : Int)) = U4 at hT hR2' hR0' hB' ⊢
 have hR2 := hR2'
 have hR0 := hR0'
 have hB := hB'
 clear hR2' hR0' hB'
 go_wp2_with fail
 refine (zbb g1 k3 S3 U4 hT).mono ?_
 rw [H4.out]
 rintro e V4 ⟨rfl, hV4, hO⟩
 dsimp only at hV4 ⊢
 replace hR0 := hR0.only hO (by omega)
 replace hR2 := hR2.only hO (by omega)
 replace hB := hB.trans (hO.below.mono (by omega))
 clear hO hT
 have f5 := hR2.frozen 5
 have c5 : V4.cell? ⟨gm, 5, none⟩ = some (.int .u64 0) := hR2.cell rfl
 have hT := hV4.below ((Below.refl _ V4).setCell (p := ⟨gm, 5, none⟩) (show g1 + 1 ≤ gm by omega) (.int .u64 (fl : Int)))
 have hR2' : Row (V4.setCell ⟨gm, 5, none⟩ (.int .u64 (fl : Int))) gm 37 [.int .u64 (c : Int), .int .u64 0, .slice none 0 0, .slice none 0 0, .int .i64 (rm : Int), .int .u64 (fl : Int), .slice none 0 0] := hR2.setCell 5 _
 have hR0' := hR0.setCell_other (p := ⟨gm, 5, none⟩) (by show w.heap.size ≠ gm; omega) (.int .u64 (fl : Int))
 have hB' := hB.setCell (p := ⟨gm, 5, none⟩) (by show w.heap.size ≤ gm; omega) (.int .u64 (fl : Int))
 go_upto_region 8 with fail
 clear hV4 hR2 hR0 hB f5 c5
 generalize V4.setCell ⟨gm, 5, none⟩ (.int .u64 (fl : Int)) = U5 at hT hR2' hR0' hB' ⊢
 have hR2 := hR2'
 have hR0 := hR0'
 have hB := hB'
 clear hR2' hR0' hB'
 go_wp2_with fail
 refine (zgf g1 k4 S4 U5 hT).mono ?_
 rw [H5.out]
 rintro e V5 ⟨rfl, hV5, hO⟩
 dsimp only at hV5 ⊢
 replace hR0 := hR0.only hO (by omega)
 replace hR2 := hR2.only hO (by omega)
 replace hB := hB.trans (hO.below.mono (by omega))
 clear hO hT
 obtain ⟨B, hBB⟩ : ∃ B, B = V5.heap.size := ⟨_, rfl⟩
 have hgl2 := hR2.lt
 have hBle : B ≤ V5.heap.size := by omega
 have hgB : gm < B := by omega
 clear hBB hgl2
 go_upto_region 9 with fail
 go_loopw [30] (fun i wr => RmI q k5 S5 c rm fl w g1 gm B i wr) (fun i _ => q - (intOf i).toNat)
 case atStart => exact ⟨0, [], .slice none 0 0, k5, S5, rfl, Nat.zero_le _, Lib.hid rfl, Lib.hid rfl, hR0, hR2, World.ownsRow_nil _ _ _ _, hV5, hB, hBle⟩
 case round =>
  clear hR0 hR2 hB hV5 hBle
  obtain ⟨j, l, u, kk, S, rfl, hj, HL, HU, hR0, hR2, hown, hT, hB, hsz⟩ := hrel
  by_cases hlt : j < q
  ·have HMORE := Lib.hid (zlp hlt HU.out)
   have hi1 : (j : Int) < (q : Int) := by omega
   obtain ⟨A6, c6, hu, hc6⟩ : ∃ A6 c6, u = .slice A6 j c6 ∧ j ≤ c6 := by
    have h1 : wr.ownsRow B 57 3 u l.length (zar l) := by rw [HL.out]; exact hown
    obtain ⟨A6, c6, h2, h3, _⟩ := zcM h1
    rw [HL.out] at h2 h3
    exact ⟨A6, c6, h2, h3⟩
   subst hu
   have HENT := Lib.hid (fun W (hT : RdRF g1 kk S W) => zgq g1 kk S W hT)
   obtain ⟨⟨x1, x2, x3⟩, kX, SX, hX⟩ : ∃ x k T, useK kk S = (x, k, T) := ⟨_, _, _, rfl⟩
   rw [hX] at HENT HMORE
   dsimp only at HMORE HENT
   clear hX HU
   go_upto_region 10 with fail
   have hS : memT gm (.slice A6 j c6) wr.drew := ⟨hR2.cell rfl, trivial⟩
   refine zgr (memT gm (.slice A6 j c6)) (.step 0 false (.step 1 false (.step 2 false (.step 3 false (.step 4 true (.step 5 true (.step 6 true (.step 7 false (.step 8 false (.nil)))))))))) hS (by rfl) (by kernel_rfl) (by kernel_rfl) (by decide) (by kernel_rfl) (by kernel_rfl) (by kernel_rfl) (by kernel_rfl) ?_
   simp only [zbo, List.dropLast]
   have hownD : wr.drew.ownsRow B 57 3 (.slice A6 j c6) j (zar l) := hown
   have hRD : Row wr.drew w.heap.size 37 l0M := hR0
   have hXD : Row wr.drew gm 37 [.int .u64 (c : Int), .int .u64 0, .slice none 0 0, .slice none 0 0, .int .i64 (rm : Int), .int .u64 (fl : Int), .slice A6 j c6] := hR2
   have hTD : RdRF g1 kk S wr.drew := hT.below (Below.refl _ _).drew
   have hBD : Below w.heap.size w wr.drew := hB.drew
   have hszD : B ≤ wr.drew.heap.size := hsz
   clear hR0 hR2 hown hT hB hsz
   iterate 4 (refine zae rfl (by rfl) (v := ?_) ?_ ?_; rotate_left 1; (rintro W ⟨hW0, hW1⟩; go_simp <;> with_reducible rfl); simp only [pA, pB, pC, Act.put, pD, pE, pF])
   generalize wr.drew = wd at hS hownD hRD hXD hTD hBD hszD ⊢
   refine zad rfl (by rfl) (fun K hK => ?_)
   go_simp
   refine (HENT.out wd hTD).mono ?_
   rintro e w7 ⟨rfl, hT7, hO⟩
   have hR7 := hRD.only hO (by omega)
   have hX7 := hXD.only hO (by omega)
   have hB7 := hBD.trans (hO.below.mono (by omega))
   have hown7 := ziR hownD hO (by omega)
   have hs7 := hO.below.size
   have hS7 : memT gm (.slice A6 j c6) w7 := ⟨hX7.cell rfl, trivial⟩
   refine hK.out _ _ hS7 ?_
   clear hK K hO hTD hRD hXD hBD hS hownD
   have hb8 : Below w7.heap.size w7 (w7.alloc (.cells #[.int .u64 (x1 : Int), .int .u64 (x2 : Int), .int .u64 (x3 : Int)] 57)) := zak (Below.refl _ _) _
   have hg27 := hX7.lt
   refine zad rfl (by rfl) (fun K hK => ?_)
   go_simp
   refine hK.out _ _ ⟨(hb8.cell (p := ⟨gm, 6, none⟩) hg27).trans hS7.1, trivial⟩ ?_
   clear hK K
   have hown8 := zbh hown7 hb8
   have hrd8 : RdU (w7.alloc (.cells #[.int .u64 (x1 : Int), .int .u64 (x2 : Int), .int .u64 (x3 : Int)] 57)) (some ⟨w7.heap.size, 0, none⟩) [(x1, x2, x3)] := fun _ => by
    have hN := Row.new w7 57 [.int .u64 (x1 : Int), .int .u64 (x2 : Int), .int .u64 (x3 : Int)] #[.int .u64 (x1 : Int), .int .u64 (x2 : Int), .int .u64 (x3 : Int)] rfl
    refine ⟨w7.heap.size, 0, rfl, fun i hi => ?_⟩
    have hi0 : i = 0 := by simpa using hi
    subst hi0
    exact ⟨hN.cell rfl, hN.cell rfl, hN.cell rfl⟩
   have hs8 := hb8.size
   refine zad rfl (by rfl) (fun K hK => ?_)
   refine zeO _ (.tmp 34) (.tmp 37) 33 (by rfl) B 57 i0 (.agg #[.int .u64 0, .int .u64 0, .int .u64 0]) 24 Tryz.underlying33 hi hz0 hz1 hz2 rfl (.slice A6 j c6) j (zar l) (by rfl) hown8 (some ⟨w7.heap.size, 0, none⟩) [(x1, x2, x3)] 1 (by rfl) hrd8 (by simp only [List.length_cons, List.length_nil]; unfold maxLen; omega) (by simp only [List.length_cons, List.length_nil]; omega) (by omega) ?_
   intro v9 w9 hown9 hgrow9 hat9
   rw [← zcg] at hown9
   have hown9' : w9.ownsRow B 57 3 v9 (j + 1) (zar (l ++ [(x1, x2, x3)])) := hown9
   obtain ⟨A9, c9, rfl, hc9q⟩ := zeV hown9'
   clear hc9q
   have hbd9 : Below B w7 w9 := (hb8.mono (by omega)).grown hgrow9 (by omega) (fun j hj => (hown8.lt j hj).1)
   have hR9 := (hR7.later hb8).grown hgrow9 (fun e => by have := (hown8.lt _ e).1; omega)
   have hX9 := (hX7.later hb8).grown hgrow9 (fun e => by have := (hown8.lt _ e).1; omega)
   have hT9 := hT7.below (hbd9.mono (by omega))
   have hB9 := hB7.trans (hbd9.mono (by omega))
   have hs9 := hbd9.size
   simp only [pA, pB, pC, Act.put, pD, pE, pF]
   refine hK.out _ _ ⟨hX9.cell rfl, trivial⟩ ?_
   clear hK K hown9 hgrow9 hat9 hbd9 hown8 hb8 hrd8 hown7 hR7 hX7 hT7 hB7 hS7
   iterate 2 (refine zae rfl (by rfl) (v := ?_) ?_ ?_; rotate_left 1; (rintro W ⟨hW0, hW1⟩; go_simp <;> with_reducible rfl); simp only [pA, pB, pC, Act.put, pD, pE, pF])
   have hc9 : w9.cell? ⟨gm, 6, none⟩ = some (.slice A6 j c6) := hX9.cell rfl
   have hf9 : w9.frozen? ⟨gm, 6, none⟩ = false := hX9.frozen 6
   refine zb6 rfl (by rfl) ?_
   go_simp
   have hOs := (Only.refl gm w9).setCell 6 (.slice A9 (j + 1) c9)
   have hown10 := ziR hown9' hOs hgB
   have hR10 := hR9.only hOs (by omega)
   have hX10 : Row (w9.setCell ⟨gm, 6, none⟩ (.slice A9 (j + 1) c9)) gm 37 [.int .u64 (c : Int), .int .u64 0, .slice none 0 0, .slice none 0 0, .int .i64 (rm : Int), .int .u64 (fl : Int), (.slice A9 (j + 1) c9)] := hX9.setCell 6 (.slice A9 (j + 1) c9)
   have hB10 := hB9.trans (hOs.below.mono (by omega))
   have hT10 := hT9.below (hOs.below.mono (by omega))
   have hs10 := hOs.below.size
   clear hown9' hR9 hX9 hB9 hT9 hc9 hf9 hOs
   generalize w9.setCell ⟨gm, 6, none⟩ (.slice A9 (j + 1) c9) = w10 at hown10 hR10 hX10 hB10 hT10 hs10 ⊢
   go_wp2_with fail
   go_roundw
   case rel => exact ⟨j + 1, l ++ [(x1, x2, x3)], (.slice A9 (j + 1) c9), kX, SX, by go_num, by omega, by unfold Hid; rw [List.length_append, HL.out]; rfl, HMORE, hR10, hX10, hown10, hT10, hB10, by omega⟩
   case measure => simp [intOf]; omega
  ·have ejq : j = q := by omega
   subst ejq
   have HE : Hid (l6 = l ∧ k6 = kk ∧ S6 = S) := by
    have h1 := HU.out
    rw [H6.out, Nat.sub_self] at h1
    have h2 : zcq 0 kk S = ([], kk, S) := rfl
    rw [h2, List.append_nil] at h1
    injection h1 with e1 e2
    injection e2 with e2 e3
    exact ⟨e1, e2, e3⟩
   obtain ⟨e1, e2, e3⟩ := HE.out
   subst e1 e2 e3
   obtain ⟨A6, c6, hu, hc6, hru6, hA6⟩ : ∃ A6 c6, u = .slice A6 j c6 ∧ j ≤ c6 ∧ RdU wr A6 l6 ∧ ∀ a, A6 = some a → B ≤ a.block := by
    have h1 : wr.ownsRow B 57 3 u l6.length (zar l6) := by rw [HL.out]; exact hown
    obtain ⟨A6, c6, h2, h3, h4, h5⟩ := zcM h1
    rw [HL.out] at h2 h3
    exact ⟨A6, c6, h2, h3, h4, h5⟩
   subst hu
   have hi1 : ¬ (j : Int) < (j : Int) := by omega
   clear HU HE hown H0 H1 H2 H3 H4 H5 H6
   go_wp2_with fail
   refine (zeo g1 k6 S6 wr hT).mono ?_
   rintro e w5 ⟨xb, bn, kE, vg, rfl, hIn, hFr, hBK, hRg, hO⟩
   unfold zdY aggB
   have HRM := Lib.hid (HST.out hBK)
   have hFrB := hFr.mono (show gm + 1 ≤ wr.heap.size by omega)
   have hR5 := hR0.only hO (by omega)
   have hX5 := hR2.only hO (by omega)
   have hB5 := hB.trans (hO.below.mono (by omega))
   have hru5 := hru6.only hO (fun _ a ha => by have := hA6 a ha; omega)
   clear hR0 hR2 hB hru6 hO hT hBK HST hsz hFr
   go_upto_region 13 with (refine wpList_store_mid rfl 32 (.tmp 44) (.tmp 43) rfl (gm) 1 ((lB xb bn).toArray) rfl rfl (zaV hX5 1 3 (by simp)) (by exact zax) (by exact all_oneCell_toArray (zaK _ _ _ rfl rfl rfl)) ?_)
   have hOs := Only.setCells (g := gm) (lB xb bn) 1 (Only.refl _ w5)
   have hX6 : Row (w5.setCells gm 1 (lB xb bn)) gm 37 [.int .u64 (c : Int), .int .u64 (bn.1 : Int), .slice xb.eA xb.n xb.ec, .slice xb.gA xb.g xb.gc, .int .i64 (rm : Int), .int .u64 (fl : Int), .slice A6 j c6] := hX5.setCells _ 1 (by simp)
   have hR6 := hR5.only hOs (by omega)
   have hG6 := hRg.only hOs (by omega)
   have hB6 := hB5.trans (hOs.below.mono (by omega))
   have hIn6 := hIn.only hOs hFrB
   have hru6 := hru5.only hOs (fun _ a ha => by have := hA6 a ha; omega)
   clear hX5 hR5 hRg hB5 hIn hru5 hOs
   generalize w5.setCells gm 1 (lB xb bn) = w6 at hX6 hR6 hG6 hB6 hIn6 hru6 ⊢
   have hIM : InM w6 ⟨xb, ⟨A6, j, c6⟩⟩ ⟨c, bn, ((rm : Int), fl, l6)⟩ := ⟨hclk, hIn6, ⟨HL.out, hc6, hru6, by show j ≤ 1000000; omega, ⟨hflr, HFU.out⟩⟩⟩
   have HRT := Lib.hid (zfz _ _ w6 hIM)
   unfold aggM at HRT
   dsimp only at HRT
   obtain ⟨R, hR⟩ : ∃ R, zaX ⟨c, bn, ((rm : Int), fl, l6)⟩ = R := ⟨_, rfl⟩
   rw [hR] at HRT HRM
   clear hR hIn6 hru6
   go_wp2_with (refine zac rfl 37 (.tmp 6) rfl (gm) 0 rfl _ _ (hX6) ([.int .u64 (c : Int), .int .u64 (bn.1 : Int), .slice xb.eA xb.n xb.ec, .slice xb.gA xb.g xb.gc, .int .i64 (rm : Int), .int .u64 (fl : Int), .slice A6 j c6]) (by rfl) _ Tryz.underlying37 rfl (by exact zai) ?_)
   refine HRT.out.mono ?_
   rintro e w7 ⟨rfl, hb7⟩
   have hX7 := hX6.later hb7
   have hR7 := hR6.later hb7
   have hG7 := hG6.later hb7
   have hB7 := zaa hB6 hb7
   have hIM7 := hIM.keep hb7
   clear hX6 hR6 hG6 hB6 hIM hb7 HRT
   go_upto_if 47 with fail
   go_cut [] (fun wx => Row wx g1 186 [vg, .int .i64 (finK R kE)] ∧ Row wx w.heap.size 37 l0M ∧ Row wx gm 37 [.int .u64 (c : Int), .int .u64 (bn.1 : Int), .slice xb.eA xb.n xb.ec, .slice xb.gA xb.g xb.gc, .int .i64 (rm : Int), .int .u64 (fl : Int), .slice A6 j c6] ∧ InM wx ⟨xb, ⟨A6, j, c6⟩⟩ ⟨c, bn, ((rm : Int), fl, l6)⟩ ∧ Below w.heap.size w wx)
   case first =>
    cases R with
    | true =>
     go_wp2_with fail
     go_meet
     case rel => exact ⟨hG7, hR7, hX7, hIM7, hB7⟩
    | false =>
     go_wp2_with fail
     refine (zoz g1 vg kE 3 w7 hG7).mono ?_
     rintro e w8 ⟨rfl, hG8, hO⟩
     have hX8 := hX7.only hO (by omega)
     have hR8 := hR7.only hO (by omega)
     have hB8 := hB7.trans (hO.below.mono (by omega))
     have hIM8 := hIM7.only hO ⟨hFrB.mono (by omega), fun a ha => by have := hA6 a ha; omega⟩
     go_wp2_with fail
     go_meet
     case rel => exact ⟨hG8, hR8, hX8, hIM8, hB8⟩
   case rest =>
   clear hX7 hR7 hG7 hB7 hIM7
   rename World => w8
   obtain ⟨hG8, hR8, hX8, hIM8, hB8⟩ := hcut
   obtain ⟨KF, hKF⟩ : ∃ K, finK R kE = K := ⟨_, rfl⟩
   have HKF := Lib.hid hKF
   rw [hKF] at hG8
   clear hKF
   have hgl8 := hR8.lt
   go_upto_region 15 with fail
   have hS := zfl (W := w8.drew) (show Row w8.drew gm 37 [.int .u64 (c : Int), .int .u64 (bn.1 : Int), .slice xb.eA xb.n xb.ec, .slice xb.gA xb.g xb.gc, .int .i64 (rm : Int), .int .u64 (fl : Int), .slice A6 j c6] from hX8) (show Row w8.drew g1 186 [vg, .int .i64 KF] from hG8)
   have hR9 := hR8.drew
   have hX9 := hX8.drew
   have hG9 := hG8.drew
   have hB9 := hB8.drew
   have hI9 := hIM8.keep ((Below.refl _ w8).drew)
   refine zah (memR gm g1 (.int .u64 (c : Int)) (.int .u64 (bn.1 : Int)) (.slice xb.eA xb.n xb.ec) (.slice xb.gA xb.g xb.gc) (.int .i64 (rm : Int)) (.int .u64 (fl : Int)) (.slice A6 j c6) (.int .i64 KF)) (.step 0 false (.step 1 false (.step 2 false (.step 3 false (.step 4 false (.step 5 false (.step 6 false (.step 7 true (.step 8 false (.nil)))))))))) hS (by kernel_rfl) (by kernel_rfl) (by rfl) (by kernel_rfl) ?_
   clear hR8 hX8 hG8 hB8 hIM8
   generalize w8.drew = wv at *
   iterate 7 (refine zae rfl (by rfl) (v := ?_) ?_ ?_; rotate_left 1; (rintro W ⟨hW0, hW1⟩; go_simp <;> with_reducible rfl); simp only [pA, pB, pC, Act.put, pD, pE, pF])
   refine zad rfl (by rfl) (fun K hK => ?_)
   refine hR9.wp_store 37 (.tmp 3) (.tmp 51) rfl rfl [.int .u64 (c : Int), .int .u64 (bn.1 : Int), .slice xb.eA xb.n xb.ec, .slice xb.gA xb.g xb.gc, .int .i64 (rm : Int), .int .u64 (fl : Int), .slice A6 j c6] rfl (by exact zai) rfl (zaq ⟨xb, ⟨A6, j, c6⟩⟩ ⟨c, bn, ((rm : Int), fl, l6)⟩) ?_
   refine hK.out _ _ (zfl (hX9.setRow_other (by omega) _) (hG9.setRow_other (by omega) _)) ?_
   clear hK K
   simp only [pA, pB, pC, Act.put, pD, pE, pF]
   iterate 1 (refine zae rfl (by rfl) (v := ?_) ?_ ?_; rotate_left 1; (rintro W ⟨hW0, hW1⟩; go_simp <;> with_reducible rfl); simp only [pA, pB, pC, Act.put, pD, pE, pF])
   refine zal ?_
   go_wp2_with fail
   refine bodyPost_ret (zgs (u := 2) (p := 3) (v := 4) (ty := 37) (by rfl) _ _ w.heap.size 37 _ _ (by rfl) (by exact hR9.setRow _) Tryz.underlying37 (by rfl) (by exact zai)) (by rfl) ?_
   have hOr := (Only.refl w.heap.size wv).setRow [.int .u64 (c : Int), .int .u64 (bn.1 : Int), .slice xb.eA xb.n xb.ec, .slice xb.gA xb.g xb.gc, .int .i64 (rm : Int), .int .u64 (fl : Int), .slice A6 j c6].toArray
   refine ⟨⟨xb, ⟨A6, j, c6⟩⟩, ⟨c, bn, ((rm : Int), fl, l6)⟩, num, KF, rfl, hI9.only hOr ⟨hFrB.mono (by omega), fun a ha => by have := hA6 a ha; omega⟩, ⟨hFrB.mono (by omega), fun a ha => by have := hA6 a ha; omega⟩, hnum, ?_, ?_, below_setRow hB9 (Nat.le_refl _) _⟩
   ·intro h0
    rw [← HKF.out, ziS] at h0
    rw [HRM.out, if_pos h0.2, if_pos h0.1]
   ·intro h0
    rw [HRM.out]
    by_cases hk : kE = 0
    ·rw [if_pos hk, if_neg (fun hr => h0 (by rw [← HKF.out, ziS]; exact ⟨hr, hk⟩))]
    ·rw [if_neg hk]
end Go.Proofs.YteljklkgdejhpaaGreatDoor
namespace Go.Proofs.YteljklkgdejhpaaGreatDoor
theorem zc7 (b : List UInt8) (k : Nat) : za5 b k < 18446744073709551616 := by
 have h := zhx ((b.drop k).take 8)
 have hl : ((b.drop k).take 8).length ≤ 8 := by rw [List.length_take]; omega
 have h2 : (256 : Nat) ^ ((b.drop k).take 8).length ≤ 256 ^ 8 := Nat.pow_le_pow_right (by decide) hl
 unfold za5
 omega
theorem ziT (b : List UInt8) (k : Nat) : zcF (zcG b k) := ⟨zc7 _ _, zc7 _ _, zc7 _ _⟩
theorem zhh (b : List UInt8) : ∀ (n k : Nat), fitU (zcA b k n)
 | 0, _ => fun x hx => by cases hx
 | n + 1, k => fun x hx => by
  rcases List.mem_cons.1 hx with rfl | hx
  ·exact ziT b k
  ·exact zhh b n (k + 24) x hx
theorem zj0 {b : List UInt8} {n : Nat} {m : MemK} (h : za2 b = some (n, m)) : n < 18446744073709551616 ∧ fitM m := by
 unfold za2 at h
 split at h
 ·cases h
 ·split at h
  ·cases h
  ·split at h
   ·cases h
   ·rename_i x hx
    split at h
    ·injection h with h
     injection h with h1 h2
     rw [← h1, ← h2]
     exact ⟨zc7 _ _, zc7 _ _, (zfZ hx).2.1, zc7 _ _, zhh _ _ _⟩
    ·cases h
theorem zj1 {c : Ca} (f : Nat) (hc : c.2.1 < 18446744073709551616) (hf : f < 18446744073709551616) : (zbi c f).1.2.1 < 18446744073709551616 := by
 unfold zbi
 split
 ·exact hc
 ·dsimp only
  omega
theorem zng (c : Ca) (u : Us) : (putC c u).1.2.1 = c.2.1 := by
 unfold putC
 repeat' split
 all_goals rfl
theorem zkC {m : MemK} {u : Us} {clock floor : Nat} (h : fitM m) (hu : zcF u) (hc : clock < 18446744073709551616) (hf : floor < 18446744073709551616) : fitM (zaY m u clock floor).1 := by
 obtain ⟨h1, h2, h3, h5⟩ := h
 unfold zaY
 split
 ·exact ⟨h1, h2, h3, h5⟩
 ·split
  ·exact ⟨h1, h2, h3, h5⟩
  ·refine ⟨hc, h2, ?_, zoa (zgT floor h5) hu⟩
   show (putC (zbi m.c floor).1 u).1.2.1 < _
   rw [zng]
   exact zj1 floor h3 hf
theorem zkD {m k : MemK} {b : List UInt8} (h : fitM m) (hg : zbT m b = some k) : fitM k := by
 unfold zbT at hg
 split at hg
 ·split at hg
  ·injection hg with hg
   rw [← hg]
   exact zkC h (ziT _ _) (zc7 _ _) (zc7 _ _)
  ·cases hg
 ·split at hg
  ·split at hg
   ·cases hg
   ·rename_i x hx
    split at hg
    ·injection hg with hg
     rw [← hg]
     exact ⟨h.1, (zfZ hx).2.1, h.2.2⟩
    ·cases hg
  ·cases hg
theorem zkE : ∀ (ts : List (List UInt8)) (m : MemK) (s : Nat), fitM m → fitM (goOn m s ts).1
 | [], _, _, h => h
 | t :: ts, m, s, h => by
  unfold goOn
  cases hg : zbT m t with
  | none => exact h
  | some k => exact zkE ts k _ (zkD h hg)
theorem zb9 {f : List UInt8 → List UInt8} {b : List UInt8} {n s : Nat} {m : MemK} (h : za6 f b = some (n, m, s)) : n < 18446744073709551616 ∧ fitM m := by
 unfold za6 at h
 split at h
 ·cases h
 ·rename_i t ts _
  split at h
  ·cases h
  ·rename_i x hx
   injection h with h
   injection h with h1 h
   obtain ⟨h2, h3⟩ := zj0 (n := x.1) (m := x.2) hx
   have := zkE ts x.2 (t.length + 6) h3
   rw [h] at this
   exact ⟨by omega, this⟩
def znh (f : List UInt8 → List UInt8) (d : DK) (n : Nat) (m m' : MemK) : Prop :=
 ∃ k a o n' z mm ke, zbL d = (mkD k a o (-1) ke false, 0) ∧ 0 ≤ ke ∧ HasA f k a o n' mm z ∧ (mm = m ∨ mm = m') ∧ n ≤ n' ∧ n' ≤ n + 1
def zkF (f : List UInt8 → List UInt8) (s : ShK) (m' : MemK) (r : ShK × Int) : Prop :=
 (r.2 = 0 ∧ zav f r.1 ∧ r.1.m = m' ∧ r.1.num ≤ s.num + 1 ∧ (s.d.fuse = -1 → r.1.d.fuse = -1)) ∨ (r = (s, 15) ∧ 4611686018427387904 ≤ s.num) ∨ (s.d.fuse ≠ -1 ∧ ∃ d, r = (zbG d, 14) ∧ znh f d s.num s.m m')
section
variable {f : List UInt8 → List UInt8} (h4 : ∀ b, (f b).length = 4)
include h4
theorem zkG {s : ShK} (h : zav f s) {m' : MemK} {t : List UInt8} (ht : t.length ≤ 60000) (hg : zbT s.m t = some m') : zkF f s m' (zb5 f s m' t) := by
 obtain ⟨k, a, o, hd, hturn, hA, hfu, hke, hn⟩ := HasA.of h
 have hrm : zaX m' = true := (zgW (zcK hA.has) hg).1
 have hfm : fitM m' := zkD (zb9 hA.has).2 hg
 have hS := zaZ h4 t
 obtain ⟨d, turn, num, m⟩ := s
 dsimp only at hd hturn hA hfu hke hn hg
 subst hturn
 obtain ⟨fu, ke, hfe, hkee⟩ : ∃ fu ke, d.fuse = fu ∧ d.keep = ke := ⟨_, _, rfl, rfl⟩
 rw [hfe, hkee] at hd
 rw [hfe] at hfu
 rw [hkee] at hke
 subst hd
 unfold zkF zb5
 dsimp only
 rw [Int.toNat_natCast, (zdN k hA.kk a o fu ke false).1, hfe]
 by_cases hlong : 8192 < a.b.length + t.length + 6
 ·rw [if_pos hlong]
  by_cases hmost : 4611686018427387904 ≤ num
  ·have e : zbA f ⟨mkD k a o fu ke false, (k : Int), num, m'⟩ = (⟨mkD k a o fu ke false, (k : Int), num, m'⟩, 15) := by
    unfold zbA
    rw [if_pos hmost]
   rw [e, if_pos rfl]
   exact .inr (.inl ⟨rfl, hmost⟩)
  ·rcases zkA h4 hA hfu hke (by omega) hrm hfm with ⟨fu', o', h1, h2, h3, e⟩ | ⟨h1, o', h2, e⟩
   ·rw [e, if_neg (by decide : ¬ (0 : Int) = 15)]
    refine .inl ⟨rfl, h3.right h1 hke (by omega), rfl, Nat.le_refl _, fun hh => ?_⟩
    rw [(zaM (1 - k) o' a fu' ke false).2.1]
    exact h2 hh
   ·rw [e, if_neg (by decide : ¬ (14 : Int) = 15)]
    refine .inr (.inr ⟨h1, _, rfl, ?_⟩)
    have hsw : mkD k a o' (-1) ke true = mkD (1 - k) o' a (-1) ke true := by rcases hA.kk with e | e <;> rw [e] <;> rfl
    rcases h2 with h2 | h2
    ·exact ⟨k, a, o', num, _, m, ke, h2.rise hke, hke, h2, .inl rfl, Nat.le_refl _, Nat.le_succ _⟩
    ·exact ⟨1 - k, o', a, num + 1, _, m', ke, by rw [hsw]; exact h2.rise hke, hke, h2, .inr rfl, Nat.le_succ _, Nat.le_refl _⟩
 ·rw [if_neg hlong]
  rcases zox h4 hA hfu hke ht (by omega) hg with ⟨fu', a', h1, h2, h3, e⟩ | ⟨h1, a', o', z, h2, e⟩
  ·rw [e, if_neg (not_not_intro rfl)]
   refine .inl ⟨rfl, h3.right h1 hke hn, rfl, Nat.le_succ _, fun hh => ?_⟩
   rw [(zaM k a' o fu' ke false).2.1]
   exact h2 hh
  ·rw [e, if_pos ne14]
   refine .inr (.inr ⟨h1, _, rfl, ?_⟩)
   rcases h2 with h2 | h2
   ·exact ⟨k, a', o', num, z, m, ke, h2.rise hke, hke, h2, .inl rfl, Nat.le_refl _, Nat.le_succ _⟩
   ·exact ⟨k, a', o', num, z, m', ke, h2.rise hke, hke, h2, .inr rfl, Nat.le_refl _, Nat.le_succ _⟩
theorem zkH {s : ShK} (h : zav f s) {u : Us} {clock floor : Nat} (hu : zcF u) (hc : clock < 18446744073709551616) (hf : floor < 18446744073709551616) :
  ((zaY s.m u clock floor).2 ≠ 0 ∧ zbq f s u clock floor = (s, (zaY s.m u clock floor).2)) ∨ ((zaY s.m u clock floor).2 = 0 ∧ zkF f s (zaY s.m u clock floor).1 (zbq f s u clock floor)) := by
 unfold zbq
 rw [if_neg (not_not_intro h)]
 by_cases he : (zaY s.m u clock floor).2 = 0
 ·rw [if_neg (not_not_intro he)]
  exact .inr ⟨he, zkG h4 h (by rw [zhF]; decide) (zkf hu hc hf he)⟩
 ·rw [if_pos he]
  exact .inl ⟨he, rfl⟩
theorem zgt {s : ShK} (h : zav f s) {x : Bn} (hf : zhE x) :
  (zaJ x.2.1 x.2.2 = false ∧ zaD f s x = (s, 1)) ∨ (zaJ x.2.1 x.2.2 = true ∧ x.1 ≤ s.m.b.1 ∧ zaD f s x = (s, 13)) ∨ (zaJ x.2.1 x.2.2 = true ∧ s.m.b.1 < x.1 ∧ zkF f s { s.m with b := x } (zaD f s x)) := by
 unfold zaD
 cases hr : zaJ x.2.1 x.2.2 with
 | false =>
  rw [if_pos (fun hh => by have := hh.2; cases this)]
  exact .inl ⟨rfl, rfl⟩
 | true =>
  rw [if_neg (not_not_intro ⟨h, rfl⟩)]
  by_cases hv : x.1 ≤ s.m.b.1
  ·rw [if_pos hv]
   exact .inr (.inl ⟨rfl, hv, rfl⟩)
  ·rw [if_neg hv]
   refine .inr (.inr ⟨rfl, by omega, zkG h4 h ?_ (zkg hr hf (by omega))⟩)
   have := zcU hr
   show (78 :: zaL x).length ≤ 60000
   rw [List.length_cons]
   omega
theorem zni {d : DK} {n : Nat} {m m' : MemK} (h : znh f d n m m') (hn : n < 4611686018427387903) {room : Int} (hr : 0 ≤ room ∧ room ≤ 64) :
  (zbL d).2 = 0 ∧ ∃ s, zcv f (zbL d).1 room = (s, 0) ∧ zav f s ∧ (s.m = m ∨ s.m = m') ∧ s.num ≤ n + 2 ∧ s.d.fuse = -1 := by
 obtain ⟨k, a, o, n', z, mm, ke, hri, hke, hA, hmm, h1, h2⟩ := h
 rw [hri]
 refine ⟨rfl, ?_⟩
 rcases zkB h4 hA (Int.le_refl _) hke (by omega) (zb9 hA.has).2 hr with ⟨fu', o', g1, g2, g3, e⟩ | ⟨g1, _⟩
 ·refine ⟨_, e, g3.right g1 hke (by omega), hmm, by dsimp only; omega, ?_⟩
  rw [(zaM (1 - k) o' a fu' ke false).2.1]
  exact g2 rfl
 ·exact absurd rfl g1
end
end Go.Proofs.YteljklkgdejhpaaGreatDoor
namespace Go.Proofs.YteljklkgdejhpaaGreatDoor
open Go.RowKit
def Agree (lo hi : Nat) (w W : World) : Prop := ∀ b, b < w.heap.size → (b < lo ∨ hi ≤ b) → W.heap[b]? = w.heap[b]?
theorem Agree.of_below {lo hi B : Nat} {w W : World} (h : Below B w W) (hl : lo ≤ B) (hh : w.heap.size ≤ hi) : Agree lo hi w W := fun b hb hc => h.block b (by omega)
theorem Agree.of_only {lo hi g : Nat} {w W : World} (h : Only g w W) (hl : lo ≤ g) (hh : g < hi) : Agree lo hi w W := fun b hb hc => h.other b (by omega) hb
theorem Agree.cell {lo hi : Nat} {w W : World} (h : Agree lo hi w W) {p : Addr} {v : Value} (hv : w.cell? p = some v) (hp : p.block < lo ∨ hi ≤ p.block) : W.cell? p = some v := (World.cell?_of_block (w := w) (a := p) (h p.block (World.block_lt_of_cell? w _ hv) hp)).trans hv
theorem Rd.agree {α : Type} {f : α → Value} {lo hi : Nat} {w W : World} {A : Option Addr} {l : List α} (h : Rd f w A l) (k : Agree lo hi w W) (hA : l ≠ [] → ∀ a, A = some a → a.block < lo ∨ hi ≤ a.block) : Rd f W A l := fun hn => by
 obtain ⟨b, o, e, hc⟩ := h hn
 have hb := hA hn _ e
 exact ⟨b, o, e, fun i hi => k.cell (hc i hi) hb⟩
structure OffB (lo hi : Nat) (x : WB) : Prop where
 e : x.n ≠ 0 → ∀ a, x.eA = some a → a.block < lo ∨ hi ≤ a.block
 s : ∀ y ∈ x.es, y.s ≠ [] → ∀ a, y.A = some a → a.block < lo ∨ hi ≤ a.block
 g : x.g ≠ 0 → ∀ a, x.gA = some a → a.block < lo ∨ hi ≤ a.block
def OffC (lo hi : Nat) (x : WC) : Prop := x.s ≠ 0 → ∀ a, x.A = some a → a.block < lo ∨ hi ≤ a.block
structure OffM (lo hi : Nat) (x : WM) : Prop where
 b : OffB lo hi x.b
 c : OffC lo hi x.c
section
variable {lo hi lo' hi' : Nat} {w W : World}
theorem OffB.mono {x : WB} (h : OffB lo hi x) (hl : lo ≤ lo') (hh : hi' ≤ hi) : OffB lo' hi' x := ⟨fun h0 a ha => by have := h.e h0 a ha; omega, fun y hy hs a ha => by have := h.s y hy hs a ha; omega, fun h0 a ha => by have := h.g h0 a ha; omega⟩
theorem OffC.mono {x : WC} (h : OffC lo hi x) (hl : lo ≤ lo') (hh : hi' ≤ hi) : OffC lo' hi' x := fun h0 a ha => by have := h h0 a ha; omega
theorem OffM.mono {x : WM} (h : OffM lo hi x) (hl : lo ≤ lo') (hh : hi' ≤ hi) : OffM lo' hi' x := ⟨h.b.mono hl hh, h.c.mono hl hh⟩
theorem FreshB.off {B : Nat} {x : WB} (h : FreshB B x) (lo : Nat) : OffB lo B x := ⟨fun _ a ha => .inr (h.e a ha), fun y hy hs a ha => .inr (h.s y hy hs a ha), fun _ a ha => .inr (h.g a ha)⟩
theorem FreshC.off {B : Nat} {x : WC} (h : FreshC B x) (lo : Nat) : OffC lo B x := fun _ a ha => .inr (h a ha)
theorem FreshM.off {B : Nat} {x : WM} (h : FreshM B x) (lo : Nat) : OffM lo B x := ⟨h.b.off lo, h.c.off lo⟩
theorem InB.off {x : WB} {b : Bn} (h : InB w x b) (hi : Nat) : OffB w.heap.size hi x :=
 ⟨fun h0 a ha => by
  obtain ⟨b', o, e, hc⟩ := h.re (by intro e; exact h0 (by rw [← h.ne, e]; rfl))
  rw [ha] at e
  injection e with e
  subst e
  exact .inl (World.block_lt_of_cell? w _ (hc 0 (by rw [h.ne]; omega)).1), fun y hy hs a ha => .inl ((h.oe y hy).2.off hs a ha), fun h0 a ha => by
  obtain ⟨b', o, e, hb, _⟩ := h.rg.at (k := 0) (by rw [h.ng]; omega)
  rw [ha] at e
  injection e with e
  subst e
  exact .inl hb⟩
theorem InC.off {x : WC} {c : Ca} (h : InC w x c) (hi : Nat) : OffC w.heap.size hi x := fun h0 a ha => by
 obtain ⟨b', o, e, hb, _⟩ := h.ru.at (k := 0) (by rw [h.ns]; omega)
 rw [ha] at e
 injection e with e
 subst e
 exact .inl hb
theorem InM.off {x : WM} {m : MemK} (h : InM w x m) (hi : Nat) : OffM w.heap.size hi x := ⟨h.ib.off hi, h.ic.off hi⟩
theorem InB.agree {x : WB} {b : Bn} (h : InB w x b) (k : Agree lo hi w W) (ho : OffB lo hi x) : InB W x b :=
 { h with
  re := fun hn => by
   obtain ⟨b', o, e, hc⟩ := h.re hn
   have hb := ho.e (by rw [← h.ne]; intro h0; exact hn (List.eq_nil_of_length_eq_zero h0)) _ e
   exact ⟨b', o, e, fun i hi' => ⟨k.cell (p := ⟨b', o + i * 3, none⟩) (hc i hi').1 hb, k.cell (p := ⟨b', o + i * 3 + 1, none⟩) (hc i hi').2.1 hb, k.cell (p := ⟨b', o + i * 3 + 2, none⟩) (hc i hi').2.2 hb⟩⟩
  oe := fun y hy => ⟨(h.oe y hy).1, (h.oe y hy).2.agree k (ho.s y hy)⟩
  rg := fun hn => by
   obtain ⟨b', o, e, hc⟩ := h.rg hn
   have hb := ho.g (by rw [← h.ng]; intro h0; exact hn (List.eq_nil_of_length_eq_zero h0)) _ e
   exact ⟨b', o, e, fun i hi' => ⟨k.cell (p := ⟨b', o + i * 2, none⟩) (hc i hi').1 hb, k.cell (p := ⟨b', o + i * 2 + 1, none⟩) (hc i hi').2 hb⟩⟩ }
theorem InC.agree {x : WC} {c : Ca} (h : InC w x c) (k : Agree lo hi w W) (ho : OffC lo hi x) : InC W x c :=
 { h with
  ru := fun hn => by
   obtain ⟨b', o, e, hc⟩ := h.ru hn
   have hb := ho (by rw [← h.ns]; intro h0; exact hn (List.eq_nil_of_length_eq_zero h0)) _ e
   exact ⟨b', o, e, fun i hi' => ⟨k.cell (p := ⟨b', o + i * 3, none⟩) (hc i hi').1 hb, k.cell (p := ⟨b', o + i * 3 + 1, none⟩) (hc i hi').2.1 hb, k.cell (p := ⟨b', o + i * 3 + 2, none⟩) (hc i hi').2.2 hb⟩⟩ }
theorem InM.agree {x : WM} {m : MemK} (h : InM w x m) (k : Agree lo hi w W) (ho : OffM lo hi x) : InM W x m := ⟨h.fc, h.ib.agree k ho.b, h.ic.agree k ho.c⟩
theorem InM.at_only {g : Nat} {x : WM} {m : MemK} (h : InM w x m) (k : Only g w W) (ho : OffM lo hi x) (hl : lo ≤ g) (hh : g < hi) : InM W x m := h.agree (Agree.of_only k hl hh) ho
theorem InB.at_only {g : Nat} {x : WB} {b : Bn} (h : InB w x b) (k : Only g w W) (ho : OffB lo hi x) (hl : lo ≤ g) (hh : g < hi) : InB W x b := h.agree (Agree.of_only k hl hh) ho
theorem InM.old {x : WM} {m : MemK} (h : InM w x m) (ho : OffM lo w.heap.size x) (hb : Below lo w W) : InM W x m := h.agree (Agree.of_below hb (Nat.le_refl _) (Nat.le_refl _)) ho
theorem OffM.any {x : WM} {m : MemK} (ho : OffM lo w.heap.size x) (h : InM w x m) (hi : Nat) : OffM lo hi x :=
 ⟨⟨fun h0 a ha => by have h1 := ho.b.e h0 a ha; have h2 := (h.off (a.block + 1)).b.e h0 a ha; omega, fun y hy hs a ha => by have h1 := ho.b.s y hy hs a ha; have h2 := (h.off (a.block + 1)).b.s y hy hs a ha; omega, fun h0 a ha => by have h1 := ho.b.g h0 a ha; have h2 := (h.off (a.block + 1)).b.g h0 a ha; omega⟩,
  fun h0 a ha => by have h1 := ho.c h0 a ha; have h2 := (h.off (a.block + 1)).c h0 a ha; omega⟩
end
end Go.Proofs.YteljklkgdejhpaaGreatDoor
