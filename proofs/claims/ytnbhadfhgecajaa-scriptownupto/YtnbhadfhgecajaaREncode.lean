/-
  The contract of the document's own Encode.
-/
import Derived.Test.YtnbhadfhgecajaaEncode
import Derived.Deep.Cut
namespace Go.Proofs.Ytnbhadfhgecajaa
open Go.RowKit
set_option linter.unusedVariables false

/-- Steps of the document's, behind a slice: the fifth cell is a place. -/
def LR (w : World) (a : Option Addr) (ss : List St) : Prop :=
  (∀ s ∈ ss, Bs w s.d.a s.d.n s.d.cap s.d.zs) ∧ (ss = [] ∨ ∃ b off, a = some ⟨b, off, none⟩ ∧ ∀ (i : Nat) (s : St), ss[i]? = some s → ∃ at0 : Int, ∀ (j : Nat) (u : Value), (s.cells.push (.int .i64 at0))[j]? = some u → w.cell? ⟨b, off + i * 5 + j, none⟩ = some u)

theorem renc_a {w w1 w2 : World} {v : Value} {p q g c m : Nat} {P A : List Int} {cs : Array Value} {o : Obj} (O1 : w1.ownsRow w.heap.size 5 1 v p (vals P)) (B1 : Below w.heap.size w w1) (H1 : w1.heap[m]? = some (.cells cs 34 (0, 0)))
    (hown : w2.ownsRow w.heap.size 5 1 (.slice (some ⟨g, 0, none⟩) (p + q) c) (p + q) (vals P ++ vals A)) (hg : (w1.alloc o).grownBy w2 v.ownBlock) :
    Hid (w2.ownsRow w.heap.size 5 1 (.slice (some ⟨g, 0, none⟩) (p + q) c) (p + q) (vals (P ++ A))) ∧ Hid (Below w.heap.size w w2) ∧ Hid (w2.heap[m]? = some (.cells cs 34 (0, 0))) := by
  have hm := (Array.getElem?_eq_some_iff.1 H1).1
  refine ⟨by rw [vals_append]; exact hown, (B1.alloc B1.size _).grown hg (by have := B1.size; simp; omega) (fun k h => (O1.lt k h).1), ?_⟩
  exact ((hg.block m (by simp; omega) (fun e => row_type O1 H1 (by decide) e)).trans (heap_alloc_old _ _ hm)).trans H1

set_option maxRecDepth 100000 in
set_option maxHeartbeats 8000000 in
theorem rencode_some (b off n cap : Nat) (ss : List St) (w : World) (hn : ss.length = n) (hs : ∀ s ∈ ss, Bs w s.d.a s.d.n s.d.cap s.d.zs) (he : ∀ (i : Nat) (s : St), ss[i]? = some s → ∃ at0 : Int, ∀ (j : Nat) (u : Value), (s.cells.push (.int .i64 at0))[j]? = some u → w.cell? ⟨b, off + i * 5 + j, none⟩ = some u)
    (hsum : (ss.map fun s => 5 + s.d.n).sum ≤ 1099511627776) (hb : b < w.heap.size) :
    Calls Try.prog 19 #[.slice (some ⟨b, off, none⟩) n cap] w fun e w' => Below w.heap.size w w' ∧ (((∀ s ∈ ss, MayBe s) ∧ ∃ v, e = .returned (.tuple #[v, .bool true]) ∧ w'.ownsRow w.heap.size 5 1 v (formAll ss).length (vals (formAll ss))) ∨ ((∃ s ∈ ss, ¬ MayBe s) ∧ e = .returned (.tuple #[.slice none 0 0, .bool false]))) := by
  obtain ⟨i5, hi5, hz50, hz51, hz52⟩ := info_parts Try.info5
  have hnl : n ≤ 1099511627776 := by
    have : ∀ l : List St, l.length ≤ (l.map fun s => 5 + s.d.n).sum := by
      intro l
      induction l with
      | nil => simp
      | cons x r ih => simp; omega
    have := this ss; omega
  go_enter Try.func19, Try.ntmps19
  go_wp2
  go_loopw [4, 5] (fun v t wr => ∃ k : Nat, k ≤ n ∧ t = .int .i64 k ∧ (∀ s ∈ ss.take k, MayBe s) ∧ wr.ownsRow w.heap.size 5 1 v (formAll (ss.take k)).length (vals (formAll (ss.take k))) ∧ Below w.heap.size w wr) (fun _ t _ => n - (intOf t).toNat)
  case atStart => exact ⟨0, by omega, rfl, fun s h => by simp at h, World.ownsRow_nil _ _ _ _, Below.refl _ _⟩
  case round =>
    obtain ⟨k, hk, rfl, hmb, hown, hbel⟩ := hrel
    by_cases hlt : k < n
    · obtain ⟨s, hsk⟩ : ∃ s, ss[k]? = some s := ⟨ss[k]'(by omega), List.getElem?_eq_getElem _⟩
      have S := hs s (List.mem_of_getElem? hsk)
      obtain ⟨at0, hce⟩ := he k s hsk
      obtain ⟨op, x, y, da, dn, dc, zs⟩ := s
      have c0 : wr.cell? ⟨b, off + k * 5, none⟩ = some (.int .i64 op) := (hbel.cell (p := ⟨b, _, none⟩) hb).trans (hce 0 _ rfl)
      have c1 : wr.cell? ⟨b, off + k * 5 + 1, none⟩ = some (.int .i64 x) := (hbel.cell (p := ⟨b, _, none⟩) hb).trans (hce 1 _ rfl)
      have c2 : wr.cell? ⟨b, off + k * 5 + 2, none⟩ = some (.int .i64 y) := (hbel.cell (p := ⟨b, _, none⟩) hb).trans (hce 2 _ rfl)
      have c3 : wr.cell? ⟨b, off + k * 5 + 3, none⟩ = some (.slice da dn dc) := (hbel.cell (p := ⟨b, _, none⟩) hb).trans (hce 3 _ rfl)
      have c4 : wr.cell? ⟨b, off + k * 5 + 4, none⟩ = some (.int .i64 at0) := (hbel.cell (p := ⟨b, _, none⟩) hb).trans (hce 4 _ rfl)
      have k0 : (0 : Int) ≤ k := by omega
      have k1 : (k : Int) < n := by omega
      dsimp only at S
      have hdn := S.small
      go_upto_region 6 with fail
      obtain ⟨wb, hwb⟩ : ∃ wb, wr.alloc (Obj.cells #[Value.int .i64 op, Value.int .i64 x, Value.int .i64 y, Value.slice da dn dc, Value.int .i64 at0] 34) = wb := ⟨_, rfl⟩
      have hob : wb.heap[wr.heap.size]? = some (Obj.cells #[Value.int .i64 op, Value.int .i64 x, Value.int .i64 y, Value.slice da dn dc, Value.int .i64 at0] 34 (0, 0)) := by rw [← hwb]; exact heap_alloc_new _ _
      have hbb : Below w.heap.size w wb := by rw [← hwb]; exact hbel.alloc hbel.size _
      have hownb : wb.ownsRow w.heap.size 5 1 u4 (formAll (ss.take k)).length (vals (formAll (ss.take k))) := by rw [← hwb]; exact hown.alloc _
      have hlb : wr.heap.size < wb.heap.size := by rw [← hwb]; simp
      rw [hwb]
      clear hwb c0 c1 c2 c3 c4 hown hbel
      have hF0 : formAll (ss.take (k + 1)) = formAll (ss.take k) ++ formOf ⟨op, x, y, ⟨da, dn, dc, zs⟩⟩ := formAll_snoc ss k _ hsk
      have hsm := formAll_small ss (fun s h => (hs s h).len) k
      have hmem : (⟨op, x, y, ⟨da, dn, dc, zs⟩⟩ : St) ∈ ss := List.mem_of_getElem? hsk
      have hsn := take_snoc_all ss k _ hsk
      obtain ⟨P, hP⟩ : ∃ P, formAll (ss.take k) = P := ⟨_, rfl⟩
      rw [hP] at hF0 hsm hownb
      obtain ⟨p, hp⟩ : ∃ p, P.length = p := ⟨_, rfl⟩
      rw [hp] at hownb hsm
      have HF : Hid (formAll (ss.take (k + 1)) = P ++ formOf ⟨op, x, y, ⟨da, dn, dc, zs⟩⟩) := hF0
      have HP : Hid (P.length = p) := hp
      have HO1 : Hid (wb.ownsRow w.heap.size 5 1 u4 p (vals P)) := hownb
      have HB1 : Hid (Below w.heap.size w wb) := hbb
      have HH1 : Hid (wb.heap[wr.heap.size]? = some (Obj.cells #[Value.int .i64 op, Value.int .i64 x, Value.int .i64 y, Value.slice da dn dc, Value.int .i64 at0] 34 (0, 0))) := hob
      have HS : Hid (Bs w da dn dc zs) := S
      have f0 : wb.cell? ⟨wr.heap.size, 0, none⟩ = some (.int .i64 op) := by simp [World.cell?, hob]
      have f1 : wb.cell? ⟨wr.heap.size, 1, none⟩ = some (.int .i64 x) := by simp [World.cell?, hob]
      have f2 : wb.cell? ⟨wr.heap.size, 2, none⟩ = some (.int .i64 y) := by simp [World.cell?, hob]
      have f3 : wb.cell? ⟨wr.heap.size, 3, none⟩ = some (.slice da dn dc) := by simp [World.cell?, hob]
      have hws := hbb.size
      have hwb0 : wr.heap.size < wb.heap.size := hlb
      have HMB : Hid (MayBe ⟨op, x, y, ⟨da, dn, dc, zs⟩⟩ → ∀ t ∈ ss.take (k + 1), MayBe t) := fun h => hsn h hmb
      have HBAD : Hid (¬ MayBe ⟨op, x, y, ⟨da, dn, dc, zs⟩⟩ → ∃ s ∈ ss, ¬ MayBe s) := fun h => ⟨_, hmem, h⟩
      clear hF0 hP hp hownb hbb hob S hsn hmb hmem hlb
      by_cases q1 : op < 0
      · go_wp2
        go_ret2
        exact ⟨HB1.out, .inr ⟨HBAD.out (fun h => by have := h.1.1; dsimp only at this; omega), rfl⟩⟩
      by_cases q2 : 15 < op
      · go_wp2
        go_ret2
        exact ⟨HB1.out, .inr ⟨HBAD.out (fun h => by have := h.1.2; dsimp only at this; omega), rfl⟩⟩
      by_cases q3 : x < 0
      · go_wp2
        go_ret2
        exact ⟨HB1.out, .inr ⟨HBAD.out (fun h => by have := h.2.1.1; dsimp only at this; omega), rfl⟩⟩
      by_cases q4 : 255 < x
      · go_wp2
        go_ret2
        exact ⟨HB1.out, .inr ⟨HBAD.out (fun h => by have := h.2.1.2; dsimp only at this; omega), rfl⟩⟩
      by_cases q5 : y < 0
      · go_wp2
        go_ret2
        exact ⟨HB1.out, .inr ⟨HBAD.out (fun h => by have := h.2.2.1.1; dsimp only at this; omega), rfl⟩⟩
      by_cases q6 : 255 < y
      · go_wp2
        go_ret2
        exact ⟨HB1.out, .inr ⟨HBAD.out (fun h => by have := h.2.2.1.2; dsimp only at this; omega), rfl⟩⟩
      by_cases q7 : 65535 < dn
      · go_wp2
        go_ret2
        exact ⟨HB1.out, .inr ⟨HBAD.out (fun h => by have := h.2.2.2; dsimp only at this; split at this <;> omega), rfl⟩⟩
      have m0 : 0 ≤ op := by omega
      have m1 : op ≤ 15 := by omega
      have m2 : 0 ≤ x := by omega
      have m3 : x ≤ 255 := by omega
      have m4 : 0 ≤ y := by omega
      have m5 : y ≤ 255 := by omega
      have m6 : dn ≤ 65535 := by omega
      by_cases hd0 : 0 < dn
      · by_cases hc : carries op
        · have hFo : Hid (formOf ⟨op, x, y, ⟨da, dn, dc, zs⟩⟩ = [op, x, y] ++ ([(dn : Int) % 256, (dn : Int) / 256] ++ zs)) := by
            show formOf _ = _
            unfold formOf
            rw [if_pos hc]
          have HM : Hid (∀ t ∈ ss.take (k + 1), MayBe t) := HMB.out ⟨⟨m0, m1⟩, ⟨m2, m3⟩, ⟨m4, m5⟩, by rw [if_pos hc]; exact m6⟩
          rcases HS.out.has with ⟨hda, hzs⟩ | ⟨ad, hda, hcells⟩
          · have := HS.out.len; rw [hzs] at this; simp at this; omega
          subst hda
          have HLz : Hid (zs.length = dn) := HS.out.len
          go_wp2_with fail
          refine (rcarries_yes op _ hc).mono ?_
          rintro e w3 ⟨rfl, hw3⟩
          have hw3 := hw3.symm
          subst hw3
          have HC : Hid (carries op) := hc
          clear hc
          go_wp2_with (at_builtin; refine wpList_append_form _ rfl (.tmp 61) (.tmp 71) 22 rfl w.heap.size 5 i5 (.int .u8 0) 1 1 Try.underlying22 hi5 hz50 hz51 hz52 rfl (by decide) u4 p (vals P) rfl (HO1.out.alloc _) ⟨wb.heap.size, 0, none⟩ 3 3 (vals [op, x, y]) rfl rfl (World.news_of_block (heap_alloc_new wb _)) (vals_one _) (by omega) (by unfold maxLen; omega) (by omega) (by simp; omega) ?_; intro g2 c2 w2 hown2 hgrow2; obtain ⟨O2, B2, H2⟩ := renc_a HO1.out HB1.out HH1.out hown2 hgrow2; clear hown2 hgrow2; have f20 : w2.cell? ⟨wr.heap.size, 0, none⟩ = some (.int .i64 op) := (by simp [World.cell?, H2.out]); have f23 : w2.cell? ⟨wr.heap.size, 3, none⟩ = some (.slice (some ad) dn dc) := (by simp [World.cell?, H2.out]); have hws2 := B2.out.size)
          refine (rcarries_yes op _ HC.out).mono ?_
          rintro e w3 ⟨rfl, hw3⟩
          have hw3 := hw3.symm
          subst hw3
          go_wp2_with (first | (at_builtin; refine wpList_append_form _ rfl (.tmp 76) (.tmp 87) 22 rfl w.heap.size 5 i5 (.int .u8 0) 1 1 Try.underlying22 hi5 hz50 hz51 hz52 rfl (by decide) (.slice (some ⟨g2, 0, none⟩) (p + 3) c2) (p + 3) (vals (P ++ [op, x, y])) rfl (O2.out.alloc _) ⟨w2.heap.size, 0, none⟩ 2 2 (vals [(dn : Int) % 256, (dn : Int) / 256]) rfl rfl (World.news_of_block (heap_alloc_new w2 _)) (vals_one _) (by omega) (by unfold maxLen; omega) (by omega) (by simp; omega) ?_; intro g3 c3 w3 hown3 hgrow3; obtain ⟨O3, B3, H3⟩ := renc_a O2.out B2.out H2.out hown3 hgrow3; clear hown3 hgrow3; have f33 : w3.cell? ⟨wr.heap.size, 3, none⟩ = some (.slice (some ad) dn dc) := (by simp [World.cell?, H3.out]); have N3 : Hid (∀ j u, (vals zs)[j]? = some u → w3.cell? (ad.add j) = some u) := has_news HS.out.has B3.out) | (at_builtin; refine wpList_append_form _ rfl (.tmp 89) (.tmp 91) 22 rfl w.heap.size 5 i5 (.int .u8 0) 1 1 Try.underlying22 hi5 hz50 hz51 hz52 rfl (by decide) (.slice (some ⟨g3, 0, none⟩) (p + 3 + 2) c3) (p + 3 + 2) (vals (P ++ [op, x, y] ++ [(dn : Int) % 256, (dn : Int) / 256])) rfl O3.out ad dn dc (vals zs) rfl (by rw [vals_length, HLz.out]; omega) N3.out (vals_one _) (by omega) (by unfold maxLen; omega) (by omega) B3.out.size ?_; intro g4 c4 w4 hown4 hgrow4; obtain ⟨O4, B4⟩ := enc_b O3.out B3.out hown4 hgrow4; clear hown4 hgrow4))
          go_roundw
          case rel => exact ⟨k + 1, by omega, by go_num, HM.out, own_as O4.out (by rw [HF.out, hFo.out]; simp [HP.out, HLz.out]; omega) (by rw [HF.out, hFo.out]; simp), B4.out⟩
          case measure => simp [intOf]; omega
        · go_wp2_with fail
          refine (rcarries_no op _ hc).mono ?_
          rintro e w3 ⟨rfl, hw3⟩
          have hw3 := hw3.symm
          subst hw3
          have HC : Hid (¬ carries op) := hc
          clear hc
          go_wp2
          go_ret2
          exact ⟨HB1.out, .inr ⟨HBAD.out (fun h => by have := h.2.2.2; dsimp only at this; rw [if_neg HC.out] at this; omega), rfl⟩⟩
      · obtain rfl : dn = 0 := by omega
        obtain rfl : zs = [] := List.length_eq_zero_iff.1 HS.out.len
        have HM : Hid (∀ t ∈ ss.take (k + 1), MayBe t) := HMB.out ⟨⟨m0, m1⟩, ⟨m2, m3⟩, ⟨m4, m5⟩, by split; exact Nat.zero_le _; rfl⟩
        go_wp2_with (at_builtin; refine wpList_append_form _ rfl (.tmp 61) (.tmp 71) 22 rfl w.heap.size 5 i5 (.int .u8 0) 1 1 Try.underlying22 hi5 hz50 hz51 hz52 rfl (by decide) u4 p (vals P) rfl (HO1.out.alloc _) ⟨wb.heap.size, 0, none⟩ 3 3 (vals [op, x, y]) rfl rfl (World.news_of_block (heap_alloc_new wb _)) (vals_one _) (by omega) (by unfold maxLen; omega) (by omega) (by simp; omega) ?_; intro g2 c2 w2 hown2 hgrow2; obtain ⟨O2, B2, H2⟩ := renc_a HO1.out HB1.out HH1.out hown2 hgrow2; clear hown2 hgrow2; have f20 : w2.cell? ⟨wr.heap.size, 0, none⟩ = some (.int .i64 op) := (by simp [World.cell?, H2.out]); have f23 : w2.cell? ⟨wr.heap.size, 3, none⟩ = some (.slice da 0 dc) := (by simp [World.cell?, H2.out]); have hws2 := B2.out.size)
        by_cases hc : carries op
        · have hFo : Hid (formOf ⟨op, x, y, ⟨da, 0, dc, []⟩⟩ = [op, x, y] ++ [0, 0]) := by
            show formOf _ = _
            unfold formOf
            rw [if_pos hc]; simp
          refine (rcarries_yes op _ hc).mono ?_
          rintro e w3 ⟨rfl, hw3⟩
          have hw3 := hw3.symm
          subst hw3
          clear hc
          rcases HS.out.has with ⟨hda, _⟩ | ⟨ad, hda, hcells⟩
          · subst hda
            obtain rfl := HS.out.bare rfl
            go_wp2_with (first | (at_builtin; refine wpList_append_form _ rfl (.tmp 76) (.tmp 87) 22 rfl w.heap.size 5 i5 (.int .u8 0) 1 1 Try.underlying22 hi5 hz50 hz51 hz52 rfl (by decide) (.slice (some ⟨g2, 0, none⟩) (p + 3) c2) (p + 3) (vals (P ++ [op, x, y])) rfl (O2.out.alloc _) ⟨w2.heap.size, 0, none⟩ 2 2 (vals [0, 0]) rfl rfl (World.news_of_block (heap_alloc_new w2 _)) (vals_one _) (by omega) (by unfold maxLen; omega) (by omega) (by simp; omega) ?_; intro g3 c3 w3 hown3 hgrow3; obtain ⟨O3, B3, H3⟩ := renc_a O2.out B2.out H2.out hown3 hgrow3; clear hown3 hgrow3; have f33 : w3.cell? ⟨wr.heap.size, 3, none⟩ = some (.slice none 0 0) := (by simp [World.cell?, H3.out])) | (at_builtin; refine wpList_append_own_none rfl (.tmp 89) (.tmp 91) 22 rfl w.heap.size 5 i5 1 Try.underlying22 hi5 (.slice (some ⟨g3, 0, none⟩) (p + 3 + 2) c3) (p + 3 + 2) (vals (P ++ [op, x, y] ++ [0, 0])) rfl O3.out rfl ?_))
            go_roundw
            case rel => exact ⟨k + 1, by omega, by go_num, HM.out, own_as O3.out (by rw [HF.out, hFo.out]; simp [HP.out]) (by rw [HF.out, hFo.out]; simp), B3.out⟩
            case measure => simp [intOf]; omega
          · subst hda
            have HLz : Hid (([] : List Int).length = 0) := rfl
            go_wp2_with (first | (at_builtin; refine wpList_append_form _ rfl (.tmp 76) (.tmp 87) 22 rfl w.heap.size 5 i5 (.int .u8 0) 1 1 Try.underlying22 hi5 hz50 hz51 hz52 rfl (by decide) (.slice (some ⟨g2, 0, none⟩) (p + 3) c2) (p + 3) (vals (P ++ [op, x, y])) rfl (O2.out.alloc _) ⟨w2.heap.size, 0, none⟩ 2 2 (vals [0, 0]) rfl rfl (World.news_of_block (heap_alloc_new w2 _)) (vals_one _) (by omega) (by unfold maxLen; omega) (by omega) (by simp; omega) ?_; intro g3 c3 w3 hown3 hgrow3; obtain ⟨O3, B3, H3⟩ := renc_a O2.out B2.out H2.out hown3 hgrow3; clear hown3 hgrow3; have f33 : w3.cell? ⟨wr.heap.size, 3, none⟩ = some (.slice (some ad) 0 dc) := (by simp [World.cell?, H3.out]); have N3 : Hid (∀ j u, (vals ([] : List Int))[j]? = some u → w3.cell? (ad.add j) = some u) := has_news HS.out.has B3.out) | (at_builtin; refine wpList_append_form _ rfl (.tmp 89) (.tmp 91) 22 rfl w.heap.size 5 i5 (.int .u8 0) 1 1 Try.underlying22 hi5 hz50 hz51 hz52 rfl (by decide) (.slice (some ⟨g3, 0, none⟩) (p + 3 + 2) c3) (p + 3 + 2) (vals (P ++ [op, x, y] ++ [0, 0])) rfl O3.out ad 0 dc (vals []) rfl (by simp [vals]) N3.out (vals_one _) (by omega) (by unfold maxLen; omega) (by omega) B3.out.size ?_; intro g4 c4 w4 hown4 hgrow4; obtain ⟨O4, B4⟩ := enc_b O3.out B3.out hown4 hgrow4; clear hown4 hgrow4))
            go_roundw
            case rel => exact ⟨k + 1, by omega, by go_num, HM.out, own_as O4.out (by rw [HF.out, hFo.out]; simp [HP.out]) (by rw [HF.out, hFo.out]; simp), B4.out⟩
            case measure => simp [intOf]; omega
        · refine (rcarries_no op _ hc).mono ?_
          rintro e w3 ⟨rfl, hw3⟩
          have hw3 := hw3.symm
          subst hw3
          have HC : Hid (¬ carries op) := hc
          clear hc
          go_wp2
          go_roundw
          case rel => exact ⟨k + 1, by omega, by go_num, HM.out, own_as O2.out (by rw [HF.out]; simp [formOf, HC.out, HP.out]) (by rw [HF.out]; simp [formOf, HC.out]), B2.out⟩
          case measure => simp [intOf]; omega
    · have hE : ss.take k = ss := List.take_of_length_le (by omega)
      rw [hE] at hmb hown
      go_wp2
      go_ret2
      exact ⟨hbel, .inl ⟨hmb, _, rfl, hown⟩⟩
set_option maxHeartbeats 400000 in
theorem rencode_empty (a : Option Addr) (cap : Nat) (w : World) :
    Calls Try.prog 19 #[.slice a 0 cap] w fun e w' => e = .returned (.tuple #[.slice none 0 0, .bool true]) ∧ w' = w := by
  go_enter Try.func19, Try.ntmps19
  go_wp2
  refine wp_loop_rounds 1 ?_
  rw [rounds_succ]
  go_wp2
  go_ret2
  exact ⟨rfl, rfl⟩

theorem rencode_any (a : Option Addr) (n cap : Nat) (ss : List St) (w : World) (hn : ss.length = n) (hL : LR w a ss) (hsum : (ss.map fun s => 5 + s.d.n).sum ≤ 1099511627776) :
    Calls Try.prog 19 #[.slice a n cap] w fun e w' => Below w.heap.size w w' ∧ (((∀ s ∈ ss, MayBe s) ∧ ∃ v, e = .returned (.tuple #[v, .bool true]) ∧ w'.ownsRow w.heap.size 5 1 v (formAll ss).length (vals (formAll ss))) ∨ ((∃ s ∈ ss, ¬ MayBe s) ∧ e = .returned (.tuple #[.slice none 0 0, .bool false]))) := by
  by_cases h0 : ss = []
  · subst h0
    obtain rfl : n = 0 := by simpa using hn.symm
    refine (rencode_empty a cap w).mono ?_
    rintro e w' ⟨rfl, rfl⟩
    exact ⟨Below.refl _ _, .inl ⟨(fun s h => by cases h), _, rfl, World.ownsRow_nil _ _ _ _⟩⟩
  · rcases hL.2 with h | ⟨b, off, rfl, e⟩
    · exact absurd h h0
    · have hp : 0 < ss.length := List.length_pos_iff.2 h0
      have hb : b < w.heap.size := by
        obtain ⟨at0, e0⟩ := e 0 ss[0] (List.getElem?_eq_getElem hp)
        have := World.block_lt_of_cell? w _ (e0 0 _ rfl); simpa using this
      exact rencode_some b off n cap ss w hn hL.1 e hsum hb
end Go.Proofs.Ytnbhadfhgecajaa
