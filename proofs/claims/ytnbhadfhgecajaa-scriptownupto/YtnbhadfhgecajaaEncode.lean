/-
  The contract of script.Encode.
-/
import Derived.Test.YtnbhadfhgecajaaStep
namespace Go.Proofs.Ytnbhadfhgecajaa
open Go.RowKit
set_option linter.unusedVariables false

/-- The form of a step, and of steps. -/
def formOf (s : St) : List Int := [s.op, s.x, s.y] ++ (if carries s.op then [(s.d.n : Int) % 256, (s.d.n : Int) / 256] ++ s.d.zs else [])
def formAll (ss : List St) : List Int := ss.flatMap formOf
/-- Steps behind a slice. -/
def LS (w : World) (a : Option Addr) (ss : List St) : Prop :=
  (∀ s ∈ ss, Bs w s.d.a s.d.n s.d.cap s.d.zs) ∧ (ss = [] ∨ ∃ b off, a = some ⟨b, off, none⟩ ∧ ∀ (i : Nat) (s : St), ss[i]? = some s → ∀ (j : Nat) (u : Value), s.cells[j]? = some u → w.cell? ⟨b, off + i * 4 + j, none⟩ = some u)

theorem formAll_snoc (ss : List St) (k : Nat) (s : St) (h : ss[k]? = some s) : formAll (ss.take (k + 1)) = formAll (ss.take k) ++ formOf s := by
  obtain ⟨hk, rfl⟩ := List.getElem?_eq_some_iff.1 h
  unfold formAll
  rw [List.take_succ_eq_append_getElem hk, List.flatMap_append]; simp
theorem take_snoc_all (ss : List St) (k : Nat) (s : St) (h : ss[k]? = some s) (hm : MayBe s) (ha : ∀ t ∈ ss.take k, MayBe t) : ∀ t ∈ ss.take (k + 1), MayBe t := by
  obtain ⟨hk, rfl⟩ := List.getElem?_eq_some_iff.1 h
  rw [List.take_succ_eq_append_getElem hk]
  intro t ht
  rcases List.mem_append.1 ht with h | h
  · exact ha t h
  · simp at h; subst h; exact hm
theorem formAll_small (ss : List St) (hs : ∀ s ∈ ss, s.d.zs.length = s.d.n) (k : Nat) : (formAll (ss.take k)).length ≤ (ss.map fun s => 5 + s.d.n).sum := by
  have h1 : ∀ (l : List St), (∀ s ∈ l, s.d.zs.length = s.d.n) → (formAll l).length ≤ (l.map fun s => 5 + s.d.n).sum := by
    intro l
    induction l with
    | nil => intro _; simp [formAll]
    | cons x r ih =>
      intro h
      have := ih (fun s hs => h s (by simp [hs]))
      have hx := h x (by simp)
      have e : formAll (x :: r) = formOf x ++ formAll r := by simp [formAll]
      rw [e, List.length_append, List.map_cons, List.sum_cons]
      have : (formOf x).length ≤ 5 + x.d.n := by
        unfold formOf; split <;> simp <;> omega
      omega
  have h2 : ∀ (l : List St) (k : Nat), ((l.take k).map fun s => 5 + s.d.n).sum ≤ (l.map fun s => 5 + s.d.n).sum := by
    intro l
    induction l with
    | nil => simp
    | cons x r ih => intro k; cases k with
      | zero => simp
      | succ k => have := ih k; simp only [List.take_succ_cons, List.map_cons, List.sum_cons]; omega
  exact Nat.le_trans (h1 _ (fun s h => hs s (List.mem_of_mem_take h))) (h2 ss k)

theorem enc_a {w w1 w2 : World} {v : Value} {p q g c m : Nat} {P A : List Int} {cs : Array Value} {o : Obj} (O1 : w1.ownsRow w.heap.size 5 1 v p (vals P)) (B1 : Below w.heap.size w w1) (H1 : w1.heap[m]? = some (.cells cs 32 (0, 0)))
    (hown : w2.ownsRow w.heap.size 5 1 (.slice (some ⟨g, 0, none⟩) (p + q) c) (p + q) (vals P ++ vals A)) (hg : (w1.alloc o).grownBy w2 v.ownBlock) :
    Hid (w2.ownsRow w.heap.size 5 1 (.slice (some ⟨g, 0, none⟩) (p + q) c) (p + q) (vals (P ++ A))) ∧ Hid (Below w.heap.size w w2) ∧ Hid (w2.heap[m]? = some (.cells cs 32 (0, 0))) := by
  have hm := (Array.getElem?_eq_some_iff.1 H1).1
  refine ⟨by rw [vals_append]; exact hown, (B1.alloc B1.size _).grown hg (by have := B1.size; simp; omega) (fun k h => (O1.lt k h).1), ?_⟩
  exact ((hg.block m (by simp; omega) (fun e => row_type O1 H1 (by decide) e)).trans (heap_alloc_old _ _ hm)).trans H1
theorem enc_b {w w1 w2 : World} {v : Value} {p q g c : Nat} {P A : List Int} (O1 : w1.ownsRow w.heap.size 5 1 v p (vals P)) (B1 : Below w.heap.size w w1)
    (hown : w2.ownsRow w.heap.size 5 1 (.slice (some ⟨g, 0, none⟩) (p + q) c) (p + q) (vals P ++ vals A)) (hg : w1.grownBy w2 v.ownBlock) :
    Hid (w2.ownsRow w.heap.size 5 1 (.slice (some ⟨g, 0, none⟩) (p + q) c) (p + q) (vals (P ++ A))) ∧ Hid (Below w.heap.size w w2) :=
  ⟨by rw [vals_append]; exact hown, B1.grown hg B1.size (fun k h => (O1.lt k h).1)⟩
theorem own_as {w : World} {base n m : Nat} {v : Value} {A B : List Int} (h : w.ownsRow base 5 1 v n (vals A)) (hl : m = n) (he : B = A) : w.ownsRow base 5 1 v m (vals B) := by subst hl he; exact h

set_option maxHeartbeats 4000000 in
theorem encode_some (b off n cap : Nat) (ss : List St) (w : World) (hn : ss.length = n) (hs : ∀ s ∈ ss, Bs w s.d.a s.d.n s.d.cap s.d.zs) (he : ∀ (i : Nat) (s : St), ss[i]? = some s → ∀ (j : Nat) (u : Value), s.cells[j]? = some u → w.cell? ⟨b, off + i * 4 + j, none⟩ = some u)
    (hsum : (ss.map fun s => 5 + s.d.n).sum ≤ 1099511627776) (hb : b < w.heap.size) :
    Calls Try.prog 18 #[.slice (some ⟨b, off, none⟩) n cap] w fun e w' => Below w.heap.size w w' ∧ (((∀ s ∈ ss, MayBe s) ∧ ∃ v, e = .returned (.tuple #[v, .int .i64 0]) ∧ w'.ownsRow w.heap.size 5 1 v (formAll ss).length (vals (formAll ss))) ∨ ((∃ s ∈ ss, ¬ MayBe s) ∧ e = .returned (.tuple #[.slice none 0 0, .int .i64 2]))) := by
  obtain ⟨i5, hi5, hz50, hz51, hz52⟩ := info_parts Try.info5
  have hnl : n ≤ 1099511627776 := by
    have : ∀ l : List St, l.length ≤ (l.map fun s => 5 + s.d.n).sum := by
      intro l
      induction l with
      | nil => simp
      | cons x r ih => simp; omega
    have := this ss; omega
  go_enter Try.func18, Try.ntmps18
  go_wp2
  go_loopw [4, 9] (fun v t wr => ∃ k : Nat, k ≤ n ∧ t = .int .i64 k ∧ (∀ s ∈ ss.take k, MayBe s) ∧ wr.ownsRow w.heap.size 5 1 v (formAll (ss.take k)).length (vals (formAll (ss.take k))) ∧ Below w.heap.size w wr) (fun _ t _ => n - (intOf t).toNat)
  case atStart => exact ⟨0, by omega, rfl, fun s h => by simp at h, World.ownsRow_nil _ _ _ _, Below.refl _ _⟩
  case round =>
    obtain ⟨k, hk, rfl, hmb, hown, hbel⟩ := hrel
    by_cases hlt : k < n
    · obtain ⟨s, hsk⟩ : ∃ s, ss[k]? = some s := ⟨ss[k]'(by omega), List.getElem?_eq_getElem _⟩
      have S := hs s (List.mem_of_getElem? hsk)
      have hce := he k s hsk
      have c0 : wr.cell? ⟨b, off + k * 4, none⟩ = some (.int .i64 s.op) := (hbel.cell (p := ⟨b, _, none⟩) hb).trans (hce 0 _ rfl)
      have c1 : wr.cell? ⟨b, off + k * 4 + 1, none⟩ = some (.int .i64 s.x) := (hbel.cell (p := ⟨b, _, none⟩) hb).trans (hce 1 _ rfl)
      have c2 : wr.cell? ⟨b, off + k * 4 + 2, none⟩ = some (.int .i64 s.y) := (hbel.cell (p := ⟨b, _, none⟩) hb).trans (hce 2 _ rfl)
      have c3 : wr.cell? ⟨b, off + k * 4 + 3, none⟩ = some (.slice s.d.a s.d.n s.d.cap) := (hbel.cell (p := ⟨b, _, none⟩) hb).trans (hce 3 _ rfl)
      have k0 : (0 : Int) ≤ k := by omega
      have k1 : (k : Int) < n := by omega
      obtain ⟨op, x, y, da, dn, dc, zs⟩ := s
      dsimp only at c0 c1 c2 c3 S
      go_wp2_with fail
      obtain ⟨wb, hwb⟩ : ∃ wb, wr.alloc (Obj.cells #[Value.int .i64 op, Value.int .i64 x, Value.int .i64 y, Value.slice da dn dc] 32) = wb := ⟨_, rfl⟩
      have hob : wb.heap[wr.heap.size]? = some (Obj.cells #[Value.int .i64 op, Value.int .i64 x, Value.int .i64 y, Value.slice da dn dc] 32 (0, 0)) := by rw [← hwb]; exact heap_alloc_new _ _
      have hbb : Below w.heap.size w wb := by rw [← hwb]; exact hbel.alloc hbel.size _
      have hlb : wr.heap.size < wb.heap.size := by rw [← hwb]; simp
      have hownb : wb.ownsRow w.heap.size 5 1 u4 (formAll (ss.take k)).length (vals (formAll (ss.take k))) := by rw [← hwb]; exact hown.alloc _
      rw [hwb]
      clear hwb c0 c1 c2 c3 hown hbel
      by_cases hm : MayBe ⟨op, x, y, ⟨da, dn, dc, zs⟩⟩
      · refine (maybe_yes ⟨op, x, y, ⟨da, dn, dc, zs⟩⟩ _ hm S.small).mono ?_
        rintro e w1 ⟨rfl, hb1⟩
        have hob1 := (hb1.block _ hlb).trans hob
        have B1 : Below w.heap.size w w1 := hbb.trans (hb1.mono hbb.size)
        have O1 := own_belowV hownb hb1 (Nat.le_refl _)
        have S1 := S.below B1
        have hl1 : wr.heap.size < w1.heap.size := Nat.lt_of_lt_of_le hlb hb1.size
        have f0 : w1.cell? ⟨wr.heap.size, 0, none⟩ = some (.int .i64 op) := by simp [World.cell?, hob1]
        have f1 : w1.cell? ⟨wr.heap.size, 1, none⟩ = some (.int .i64 x) := by simp [World.cell?, hob1]
        have f2 : w1.cell? ⟨wr.heap.size, 2, none⟩ = some (.int .i64 y) := by simp [World.cell?, hob1]
        have f3 : w1.cell? ⟨wr.heap.size, 3, none⟩ = some (.slice da dn dc) := by simp [World.cell?, hob1]
        obtain ⟨⟨m0, m1⟩, ⟨m2, m3⟩, ⟨m4, m5⟩, m6⟩ := hm
        dsimp only at m0 m1 m2 m3 m4 m5 m6
        clear hbb hb1 hownb
        have hF0 : formAll (ss.take (k + 1)) = formAll (ss.take k) ++ formOf ⟨op, x, y, ⟨da, dn, dc, zs⟩⟩ := formAll_snoc ss k _ hsk
        have hsm := formAll_small ss (fun s h => (hs s h).len) k
        have hmb' := take_snoc_all ss k _ hsk ⟨⟨m0, m1⟩, ⟨m2, m3⟩, ⟨m4, m5⟩, m6⟩ hmb
        obtain ⟨P, hP⟩ : ∃ P, formAll (ss.take k) = P := ⟨_, rfl⟩
        rw [hP] at hF0 hsm O1
        have HF : Hid (formAll (ss.take (k + 1)) = P ++ formOf ⟨op, x, y, ⟨da, dn, dc, zs⟩⟩) := hF0
        obtain ⟨p, hp⟩ : ∃ p, P.length = p := ⟨_, rfl⟩
        rw [hp] at O1 hsm
        have HP : Hid (P.length = p) := hp
        have HO1 : Hid (w1.ownsRow w.heap.size 5 1 u4 p (vals P)) := O1
        have HB1 : Hid (Below w.heap.size w w1) := B1
        have HH1 : Hid (w1.heap[wr.heap.size]? = some (Obj.cells #[Value.int .i64 op, Value.int .i64 x, Value.int .i64 y, Value.slice da dn dc] 32 (0, 0))) := hob1
        have HMB : Hid (∀ t ∈ ss.take (k + 1), MayBe t) := hmb'
        have HS : Hid (Bs w da dn dc zs) := S
        have hws := B1.size
        have hdn := S.small
        clear hF0 hmb' hP hp O1 B1 hob1 S S1 hmb hob
        go_wp2_with (at_builtin; refine wpList_append_form _ rfl (.tmp 16) (.tmp 26) 22 rfl w.heap.size 5 i5 (.int .u8 0) 1 1 Try.underlying22 hi5 hz50 hz51 hz52 rfl (by decide) u4 p (vals P) rfl (HO1.out.alloc _) ⟨w1.heap.size, 0, none⟩ 3 3 (vals [op, x, y]) rfl rfl (World.news_of_block (heap_alloc_new w1 _)) (vals_one _) (by omega) (by unfold maxLen; omega) (by omega) (by simp; omega) ?_; intro g2 c2 w2 hown2 hgrow2; obtain ⟨O2, B2, H2⟩ := enc_a HO1.out HB1.out HH1.out hown2 hgrow2; clear hown2 hgrow2; have f20 : w2.cell? ⟨wr.heap.size, 0, none⟩ = some (.int .i64 op) := (by simp [World.cell?, H2.out]); have f23 : w2.cell? ⟨wr.heap.size, 3, none⟩ = some (.slice da dn dc) := (by simp [World.cell?, H2.out]))
        have hws2 := B2.out.size
        by_cases hc : carries op
        · rw [if_pos hc] at m6
          refine (carries_yes op _ hc).mono ?_
          rintro e w3 ⟨rfl, hw3⟩
          have hw3 := hw3.symm
          subst hw3
          have HC : Hid (carries op) := hc
          clear hc
          have hFo : Hid (formOf ⟨op, x, y, ⟨da, dn, dc, zs⟩⟩ = [op, x, y] ++ ([(dn : Int) % 256, (dn : Int) / 256] ++ zs)) := by
            show formOf _ = _
            unfold formOf
            rw [if_pos HC.out]
          rcases HS.out.has with ⟨hda, hzs⟩ | ⟨ad, hda, hcells⟩
          · subst hda hzs
            have hdn0 : dn = 0 := by have := HS.out.len; simpa using this.symm
            subst hdn0
            obtain rfl := HS.out.bare rfl
            go_wp2_with (first
              | (at_builtin; refine wpList_append_form _ rfl (.tmp 31) (.tmp 41) 22 rfl w.heap.size 5 i5 (.int .u8 0) 1 1 Try.underlying22 hi5 hz50 hz51 hz52 rfl (by decide) (.slice (some ⟨g2, 0, none⟩) (p + 3) c2) (p + 3) (vals (P ++ [op, x, y])) rfl (O2.out.alloc _) ⟨w2.heap.size, 0, none⟩ 2 2 (vals [0, 0]) rfl rfl (World.news_of_block (heap_alloc_new w2 _)) (vals_one _) (by omega) (by unfold maxLen; omega) (by omega) (by simp; omega) ?_; intro g3 c3 w3 hown3 hgrow3; obtain ⟨O3, B3, H3⟩ := enc_a O2.out B2.out H2.out hown3 hgrow3; clear hown3 hgrow3; have f33 : w3.cell? ⟨wr.heap.size, 3, none⟩ = some (.slice none 0 0) := (by simp [World.cell?, H3.out]))
              | (at_builtin; refine wpList_append_own_none rfl (.tmp 43) (.tmp 45) 22 rfl w.heap.size 5 i5 1 Try.underlying22 hi5 (.slice (some ⟨g3, 0, none⟩) (p + 3 + 2) c3) (p + 3 + 2) (vals (P ++ [op, x, y] ++ [0, 0])) rfl O3.out rfl ?_))
            go_roundw
            case rel => exact ⟨k + 1, by omega, by go_num, HMB.out, own_as O3.out (by rw [HF.out, hFo.out]; simp [HP.out]) (by rw [HF.out, hFo.out]; simp), B3.out⟩
            case measure => simp [intOf]; omega
          · subst hda
            have HLz : Hid (zs.length = dn) := HS.out.len
            go_wp2_with (first
              | (at_builtin; refine wpList_append_form _ rfl (.tmp 31) (.tmp 41) 22 rfl w.heap.size 5 i5 (.int .u8 0) 1 1 Try.underlying22 hi5 hz50 hz51 hz52 rfl (by decide) (.slice (some ⟨g2, 0, none⟩) (p + 3) c2) (p + 3) (vals (P ++ [op, x, y])) rfl (O2.out.alloc _) ⟨w2.heap.size, 0, none⟩ 2 2 (vals [(dn : Int) % 256, (dn : Int) / 256]) rfl rfl (World.news_of_block (heap_alloc_new w2 _)) (vals_one _) (by omega) (by unfold maxLen; omega) (by omega) (by simp; omega) ?_; intro g3 c3 w3 hown3 hgrow3; obtain ⟨O3, B3, H3⟩ := enc_a O2.out B2.out H2.out hown3 hgrow3; clear hown3 hgrow3; have f33 : w3.cell? ⟨wr.heap.size, 3, none⟩ = some (.slice (some ad) dn dc) := (by simp [World.cell?, H3.out]); have N3 : Hid (∀ j u, (vals zs)[j]? = some u → w3.cell? (ad.add j) = some u) := has_news HS.out.has B3.out)
              | (at_builtin; refine wpList_append_form _ rfl (.tmp 43) (.tmp 45) 22 rfl w.heap.size 5 i5 (.int .u8 0) 1 1 Try.underlying22 hi5 hz50 hz51 hz52 rfl (by decide) (.slice (some ⟨g3, 0, none⟩) (p + 3 + 2) c3) (p + 3 + 2) (vals (P ++ [op, x, y] ++ [(dn : Int) % 256, (dn : Int) / 256])) rfl O3.out ad dn dc (vals zs) rfl (by rw [vals_length, HLz.out]; omega) N3.out (vals_one _) (by omega) (by unfold maxLen; omega) (by omega) B3.out.size ?_; intro g4 c4 w4 hown4 hgrow4; obtain ⟨O4, B4⟩ := enc_b O3.out B3.out hown4 hgrow4; clear hown4 hgrow4))
            go_roundw
            case rel => exact ⟨k + 1, by omega, by go_num, HMB.out, own_as O4.out (by rw [HF.out, hFo.out]; simp [HP.out, HLz.out]; omega) (by rw [HF.out, hFo.out]; simp), B4.out⟩
            case measure => simp [intOf]; omega
        · refine (carries_no op _ hc).mono ?_
          rintro e w3 ⟨rfl, hw3⟩
          have hw3 := hw3.symm
          subst hw3
          have HC : Hid (¬ carries op) := hc
          clear hc m6
          go_wp2
          go_roundw
          case rel => exact ⟨k + 1, by omega, by go_num, HMB.out, own_as O2.out (by rw [HF.out]; simp [formOf, HC.out, HP.out]) (by rw [HF.out]; simp [formOf, HC.out]), B2.out⟩
          case measure => simp [intOf]; omega
      · refine (maybe_no ⟨op, x, y, ⟨da, dn, dc, zs⟩⟩ _ hm S.small).mono ?_
        rintro e w1 ⟨rfl, hb1⟩
        have B1 : Below w.heap.size w w1 := hbb.trans (hb1.mono hbb.size)
        clear hob hbb hb1 hownb
        go_wp2
        go_ret2
        exact ⟨B1, .inr ⟨⟨_, List.mem_of_getElem? hsk, hm⟩, rfl⟩⟩
    · have hE : ss.take k = ss := List.take_of_length_le (by omega)
      rw [hE] at hmb hown
      go_wp2
      go_ret2
      exact ⟨hbel, .inl ⟨hmb, _, rfl, hown⟩⟩
set_option maxHeartbeats 400000 in
theorem encode_empty (a : Option Addr) (cap : Nat) (w : World) :
    Calls Try.prog 18 #[.slice a 0 cap] w fun e w' => e = .returned (.tuple #[.slice none 0 0, .int .i64 0]) ∧ w' = w := by
  go_enter Try.func18, Try.ntmps18
  go_wp2
  refine wp_loop_rounds 1 ?_
  rw [rounds_succ]
  go_wp2
  go_ret2
  exact ⟨rfl, rfl⟩

theorem encode_any (a : Option Addr) (n cap : Nat) (ss : List St) (w : World) (hn : ss.length = n) (hL : LS w a ss) (hsum : (ss.map fun s => 5 + s.d.n).sum ≤ 1099511627776) :
    Calls Try.prog 18 #[.slice a n cap] w fun e w' => Below w.heap.size w w' ∧ (((∀ s ∈ ss, MayBe s) ∧ ∃ v, e = .returned (.tuple #[v, .int .i64 0]) ∧ w'.ownsRow w.heap.size 5 1 v (formAll ss).length (vals (formAll ss))) ∨ ((∃ s ∈ ss, ¬ MayBe s) ∧ e = .returned (.tuple #[.slice none 0 0, .int .i64 2]))) := by
  by_cases h0 : ss = []
  · subst h0
    obtain rfl : n = 0 := by simpa using hn.symm
    refine (encode_empty a cap w).mono ?_
    rintro e w' ⟨rfl, rfl⟩
    exact ⟨Below.refl _ _, .inl ⟨(fun s h => by cases h), _, rfl, World.ownsRow_nil _ _ _ _⟩⟩
  · rcases hL.2 with h | ⟨b, off, rfl, e⟩
    · exact absurd h h0
    · have hp : 0 < ss.length := List.length_pos_iff.2 h0
      have hb : b < w.heap.size := by
        have := World.block_lt_of_cell? w _ (e 0 ss[0] (List.getElem?_eq_getElem hp) 0 _ rfl); simpa using this
      exact encode_some b off n cap ss w hn hL.1 e hsum hb
end Go.Proofs.Ytnbhadfhgecajaa
