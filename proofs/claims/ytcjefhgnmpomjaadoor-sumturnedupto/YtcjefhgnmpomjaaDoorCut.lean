/-
  The walk of SumCut.
-/
import Derived.Test.YtcjefhgnmpomjaaDoorCutMath
namespace Go.Proofs.YtcjefhgnmpomjaaDoor
open Go.RowKit
set_option linter.unusedVariables false

theorem own_bs {w : World} {base : Nat} {v : Value} {n : Nat} {zs : List Int} (h : w.ownsRow base 5 1 v n (vals zs)) (hz : Octets zs) (hl : n ≤ 140737488351232) : ∃ a cp, v = .slice a n cp ∧ Bs w a n cp zs := by
  have hn : zs.length = n := by have := h.1; simp [vals_length] at this; exact this
  rcases h.2 with ⟨rfl, h0⟩ | ⟨g, cp, cur, rfl, _, _, hc, hm, _⟩
  · subst h0
    obtain rfl : zs = [] := List.length_eq_zero_iff.1 hn
    exact ⟨none, 0, rfl, Bs.nil w⟩
  · exact ⟨_, cp, rfl, hn, own_has h, hz, (fun h => by cases h), hc, hm, by omega⟩
theorem own_ll {w : World} {base : Nat} {v : Value} {gs : List Sl} (h : w.ownsRow base 22 1 v gs.length (gs.map Sl.val)) (hb : ∀ s ∈ gs, Bs w s.a s.n s.cap s.zs) : ∃ a cp, v = .slice a gs.length cp ∧ LL w a gs ∧ gs.length ≤ cp ∧ (a = none → cp = 0) := by
  rcases h.2 with ⟨rfl, h0⟩ | ⟨g, cp, cur, rfl, _, _, hc, _⟩
  · have : gs = [] := List.length_eq_zero_iff.1 h0
    subst this
    exact ⟨none, 0, rfl, ⟨hb, .inl rfl⟩, by simp, fun _ => rfl⟩
  · refine ⟨_, cp, rfl, ⟨hb, .inr ⟨g, 0, rfl, fun i s hi => ?_⟩⟩, hc, (fun h => by cases h)⟩
    have hil := (List.getElem?_eq_some_iff.1 hi).1
    rw [Nat.zero_add, h.cellAt i (by omega)]
    simp [hi]
theorem own_ints {w : World} {base : Nat} {v : Value} {n : Nat} {l : List Int} (h : w.ownsRow base 3 1 v n (ivals l)) : ∃ a cp, v = .slice a n cp ∧ (n = 0 ∨ ∃ g, a = some ⟨g, 0, none⟩ ∧ ∀ j, j < n → w.cell? ⟨g, j, none⟩ = some (.int .i64 (l.getD j 0))) := by
  have hn : l.length = n := by have := h.1; simp [ivals] at this; exact this
  rcases h.2 with ⟨rfl, h0⟩ | ⟨g, cp, cur, rfl, _⟩
  · exact ⟨none, 0, by rw [h0], .inl h0⟩
  · refine ⟨_, cp, rfl, .inr ⟨g, rfl, fun j hj => ?_⟩⟩
    rw [h.cellAt j (by omega)]
    simp [ivals, show j < l.length by omega]

theorem Row.front {w : World} {base g n cap : Nat} {zs : List Int} (h : Row w base g n cap zs) : w.ownsRow base 5 1 (.slice (some ⟨g, 0, none⟩) n cap) n (vals zs) := by
  refine ⟨by rw [vals_length, h.len]; omega, ?_⟩
  rcases h.owns.2 with ⟨h, _⟩ | ⟨g', cap', cur, hv, hb, hg, hc, hm, hs, ht⟩
  · cases h
  · cases hv
    refine .inr ⟨g, cap, cur, rfl, hb, hg, by omega, hm, hs, ?_⟩
    have := congrArg (List.take n) ht
    rw [List.take_take, vals_append, List.take_left' (by rw [vals_length, h.len])] at this
    rw [← this]; congr 1; omega
theorem cut_at (G : List Sl) (c : Nat) : ∃ j, j ≤ G.length ∧ (flat (G.take j)).length ≤ c ∧ (j = G.length ∨ ∃ s, G[j]? = some s ∧ c < (flat (G.take j)).length + (8 + s.zs.length)) := by
  have key : ∀ d m, G.length - m = d → m ≤ G.length → (flat (G.take m)).length ≤ c → ∃ j, j ≤ G.length ∧ (flat (G.take j)).length ≤ c ∧ (j = G.length ∨ ∃ s, G[j]? = some s ∧ c < (flat (G.take j)).length + (8 + s.zs.length)) := by
    intro d
    induction d with
    | zero => intro m h1 h2 h3; exact ⟨m, h2, h3, .inl (by omega)⟩
    | succ d ih =>
      intro m h1 h2 h3
      have hm : m < G.length := by omega
      by_cases hc : c < (flat (G.take m)).length + (8 + G[m].zs.length)
      · exact ⟨m, h2, h3, .inr ⟨G[m], List.getElem?_eq_getElem hm, hc⟩⟩
      · refine ih (m + 1) (by omega) (by omega) ?_
        rw [List.take_succ_eq_append_getElem hm, flat_snoc, List.length_append, frame_length]; omega
  exact key G.length 0 (by omega) (by omega) (by simp [flat])
theorem Bs.frontAny {w : World} {a : Option Addr} {n cap : Nat} {zs : List Int} (h : Bs w a n cap zs) (k : Nat) (hk : k ≤ n) : Bs w a k cap (zs.take k) := by
  have := h.len; have := h.fits; have := h.small
  exact ⟨by simp; omega, has_front h.has k (by omega), h.oct.take k, h.bare, by omega, h.cap, by omega⟩
theorem LL.front {w : World} {a : Option Addr} {ss : List Sl} (h : LL w a ss) (k : Nat) : LL w a (ss.take k) := by
  refine ⟨fun s hs => h.1 s (List.mem_of_mem_take hs), ?_⟩
  rcases h.2 with h | ⟨b, off, rfl, e⟩
  · subst h; exact .inl (by simp)
  · refine .inr ⟨b, off, rfl, fun i s hi => e i s ?_⟩
    rw [List.getElem?_take] at hi
    split at hi
    · exact hi
    · cases hi
/-- Scan of bytes that begin with frames, and go on with what begins with none. -/
theorem scan_frames (a : Option Addr) (n cap : Nat) (zs tail : List Int) (gs : List Sl) (w : World) (hn : zs.length = n) (hB : Has w a zs) (hz : Octets zs) (hT : Tab w) (hl : n ≤ 1099511627776) (hf : Fit gs) (he : zs = flat gs ++ tail) (ht : ∀ N, ¬ IsRec tail N) :
    Calls Tryd.prog 19 #[.slice a n cap] w fun e w' => ∃ a1 c1 ss, e = .returned (.tuple #[.slice a1 gs.length c1, .int .i64 ((flat gs).length : Int)]) ∧ LL w' a1 ss ∧ ss.length = gs.length ∧ ss.map (·.zs) = gs.map (·.zs) ∧ Below w.heap.size w w' := by
  refine (scan_any a n cap zs w hn hB hz hT hl).mono ?_
  rintro e w' ⟨xs, v, hall, rfl, hown, hlies, hb⟩
  obtain ⟨h1, h2⟩ := allOf_frames zs tail gs hf ht 0 xs (by simpa using he) hall
  obtain ⟨a1, c1, rfl, hLL⟩ := LL.scanned hown hlies (told_fit hz 0 xs hall.1)
  have hlen : xs.length = gs.length := by have := congrArg List.length h1; simpa using this
  refine ⟨a1, c1, xs.map tl, ?_, hLL, by simpa using hlen, ?_, hb⟩
  · rw [h2, hlen, Nat.zero_add]
  · rw [← h1]; simp [tl, Function.comp_def]

set_option maxRecDepth 100000 in
set_option maxHeartbeats 4000000 in
theorem cut_any (al : Option Addr) (nl cl : Nat) (ss : List Sl) (q : Int) (at' : Option Addr) (nt ct : Nat) (ts : List Int) (w : World) (hnl : ss.length = nl) (hL : LL w al ss) (hs : ∀ s ∈ ss, s.n ≤ 140737488351232) (hT : Tab w) (hsum : (ss.map fun s => 8 + s.n).sum ≤ 68719476736)
    (hP : Bs w at' nt ct ts) (hnt : nt ≤ 68719476736) (hq0 : -9223372036854775808 ≤ q) (hq1 : q ≤ 9223372036854775807) :
    Calls Tryd.prog 6 #[.slice al nl cl, .int .i64 q, .slice at' nt ct] w fun e w' => e = .returned (.bool true) ∧ Below w.heap.size w w' := by
  obtain ⟨i0, hi, hz0, hz1, hz2⟩ := info_parts Tryd.info5
  go_enter Tryd.func6, Tryd.ntmps6
  go_wp2_with fail
  refine (awake_any _ hT).mono ?_
  rintro e wA ⟨rfl, hbA⟩
  have LA := hL.below hbA
  have TA : Tab wA := hT.below hbA hT.pos
  go_wp2_with fail
  refine (framed_any al nl cl ss _ hnl LA hs TA (by omega)).mono ?_
  rintro e w1 ⟨v5, v6, v7, rfl, hG⟩
  obtain ⟨G, hGe⟩ : ∃ G, kept ss = G := ⟨_, rfl⟩
  have hfit : Fit G := by
    rw [← hGe]; intro s h
    obtain ⟨h1, h2⟩ := List.mem_filter.1 h
    have := hL.1 s h1
    exact ⟨this.len, by simpa [short] using h2, this.oct⟩
  have hFL : (flat G).length ≤ 68719476736 := by
    rw [flat_length G (fun s h => (hfit s h).1), ← hGe]
    have := kept_sum ss ss.length
    rw [List.take_length] at this; omega
  have hGB : ∀ s ∈ G, Bs w1 s.a s.n s.cap s.zs := by
    rw [← hGe]; intro s h
    exact (LA.1 s (List.mem_filter.1 h).1).below hG.below
  rw [hGe] at hG
  have hoct := flat_octets G hfit
  have B1 : Below w.heap.size w w1 := hbA.trans (hG.below.mono hbA.size)
  obtain ⟨ab, cb, rfl, hBb⟩ := own_bs hG.b hoct (by omega)
  obtain ⟨a6, c6, rfl, hL6, hc6, hn6⟩ := own_ll hG.good hGB
  obtain ⟨a7, c7, rfl, hI7⟩ := own_ints hG.places
  clear hG hGe hGB LA TA hbA
  have T1 : Tab w1 := hT.below B1 hT.pos
  have P1 : Bs w1 at' nt ct ts := hP.below B1
  have hGl : G.length ≤ 68719476736 := by
    have : ∀ l : List Sl, l.length ≤ (flat l).length := by
      intro l
      induction l with
      | nil => simp
      | cons x r ih => simp only [flat, List.flatMap_cons, List.length_append, frame_length, List.length_cons] at *; omega
    exact Nat.le_trans (this G) hFL
  obtain ⟨n, hn⟩ : ∃ n, (flat G).length = n := ⟨_, rfl⟩
  have HN : Hid ((flat G).length = n) := hn
  rw [hn] at hBb hFL ⊢
  clear hn
  go_wp2_with fail
  refine (lent_rel w1 _ ab n cb (flat G) (Below.refl _ _) hBb (by omega)).mono ?_
  rintro e w2 ⟨g2, cp2, rfl, hB2, hb2⟩
  go_wp2_with fail
  refine (scan_frames (some ⟨g2, 0, none⟩) n cp2 (flat G) [] G _ HN.out hB2.has hoct (T1.below hb2 T1.pos) (by omega) hfit (by simp) isRec_nil).mono ?_
  rintro e w3 ⟨a3, c3, s3, rfl, hL3, hl3, hz3, hb3⟩
  rw [HN.out]
  have B3 : Below w1.heap.size w1 w3 := hb2.trans (hb3.mono hb2.size)
  clear hB2 hb2 hb3
  go_wp2_with fail
  refine (lists_any a3 a6 G.length c3 c6 s3 G _ hl3 (by omega) hL3 (hL6.below B3) hz3).mono ?_
  rintro e w4 ⟨rfl, hb4⟩
  have B4 : Below w1.heap.size w1 w4 := B3.trans (hb4.mono B3.size)
  clear hL3 B3 hb4 hl3 hz3
  go_wp2_with fail
  refine (lent_rel w1 _ at' nt ct ts B4 P1 (by omega)).mono ?_
  rintro e w5 ⟨g5, cp5, rfl, hB5, hb5⟩
  go_wp2_with fail
  refine (next_any (some ⟨g5, 0, none⟩) nt cp5 ts _ hB5.len hB5.has hB5.fits hB5.cap hB5.oct (T1.below hb5 T1.pos)).mono ?_
  rintro e w6 ⟨hb6, hN6⟩
  have B6 : Below w1.heap.size w1 w6 := hb5.trans (hb6.mono hb5.size)
  clear hB5 hb5 hb6 B4
  obtain ⟨pv, pn, pe, he6, hor⟩ : ∃ pv pn pe, e = .returned (.tuple #[pv, .int .i64 pn, .int .i64 pe]) ∧ (pe = 0 ∨ (pe = 10 ∧ ∀ N, ¬ IsRec ts N)) := by
    rcases hN6 with ⟨hno, rfl⟩ | ⟨N, gp, _, rfl, _⟩
    · exact ⟨_, _, _, rfl, .inr ⟨rfl, hno⟩⟩
    · exact ⟨_, _, _, rfl, .inl rfl⟩
  subst he6
  clear hN6
  go_upto_if 54 with fail
  go_cut [15, 16] (fun _ _ wx => Below w1.heap.size w1 wx)
  case first =>
    rcases hor with rfl | ⟨rfl, hno⟩
    · go_wp2_with fail
      go_meet
      case rel => exact B6
    · go_wp2_with fail
      refine (lent_row ab n cb (flat G) _ HN.out (hBb.below B6).has hoct hBb.bare (by omega)).mono ?_
      rintro e w7 ⟨g7, cp7, rfl, hR7, hb7⟩
      have B7 : Below w1.heap.size w1 w7 := B6.trans (hb7.mono B6.size)
      have O7 : Hid (w7.ownsRow w6.heap.size 5 1 (.slice (some ⟨g7, 0, none⟩) n cp7) n (vals (flat G))) := hR7.front
      have P7 := P1.below B7
      have hR7g := hR7.lt
      rcases P7.has with ⟨hat, hts⟩ | ⟨x, hat, hBx⟩
      · subst hat
        obtain rfl := P1.bare rfl
        have hnt0 : nt = 0 := by have := P1.len; rw [hts] at this; simpa using this.symm
        subst hnt0
        go_wp2_with (at_builtin; refine wpList_append_own_none rfl (.tmp 57) (.tmp 58) 22 rfl w6.heap.size 5 i0 1 Tryd.underlying22 hi (.slice (some ⟨g7, 0, none⟩) n cp7) n (vals (flat G)) rfl O7.out rfl ?_)
        refine (scan_frames (some ⟨g7, 0, none⟩) n cp7 (flat G) [] G _ HN.out hR7.has hoct (T1.below B7 T1.pos) (by omega) hfit (by simp) isRec_nil).mono ?_
        rintro e w8 ⟨a8, c8, s8, rfl, hL8, hl8, hz8, hb8⟩
        rw [HN.out]
        have B8 : Below w1.heap.size w1 w8 := B7.trans (hb8.mono B7.size)
        clear hb8 hb7 hR7 O7
        go_wp2_with fail
        refine (lists_any a8 a6 G.length c8 c6 s8 G _ hl8 (by omega) hL8 (hL6.below B8) hz8).mono ?_
        rintro e w9 ⟨rfl, hb9⟩
        have B9 : Below w1.heap.size w1 w9 := B8.trans (hb9.mono B8.size)
        clear hb9 hL8 B8
        go_wp2_with fail
        go_meet
        case rel => exact B9
      · subst hat
        have N7 : Hid (∀ j u, (vals ts)[j]? = some u → w7.cell? (x.add j) = some u) := fun j u h => by
          obtain ⟨hj, rfl⟩ := vals_at ts j u h
          exact hBx j hj
        have HT : Hid ((vals ts).length = nt * 1) := by
          show (vals ts).length = nt * 1
          rw [vals_length, P1.len]; omega
        have hw6 : w6.heap.size ≤ w7.heap.size := hb7.size
        go_wp2_with (at_builtin; refine wpList_append_own _ rfl (.tmp 57) (.tmp 58) 22 rfl w6.heap.size 5 i0 (.int .u8 0) 1 1 Tryd.underlying22 hi hz0 hz1 hz2 rfl (by decide) (.slice (some ⟨g7, 0, none⟩) n cp7) n (vals (flat G)) rfl O7.out x nt ct (vals ts) rfl HT.out N7.out (vals_one _) (by unfold maxLen; omega) (by omega) hw6 ?_; intro v8 w8 hown8 hgrow8 _; obtain ⟨a8, c8, hv8, hB8⟩ := own_bs (by rw [← vals_append] at hown8; exact hown8) (hoct.append P1.oct) (by omega); have B8 : Hid (Below w1.heap.size w1 w8) := B7.grown hgrow8 B7.size (fun k h => by simp [Value.ownBlock] at h; have := B6.size; omega); clear hgrow8 hown8; subst hv8)
        refine (scan_frames a8 (n + nt) c8 (flat G ++ ts) ts G _ hB8.len hB8.has hB8.oct (T1.below B8.out T1.pos) (by omega) hfit rfl hno).mono ?_
        rintro e w9 ⟨a9, c9, s9, rfl, hL9, hl9, hz9, hb9⟩
        rw [HN.out]
        have B9 : Below w1.heap.size w1 w9 := B8.out.trans (hb9.mono B8.out.size)
        clear hb9 hb7 hR7 O7 hB8
        go_wp2_with fail
        refine (lists_any a9 a6 G.length c9 c6 s9 G _ hl9 (by omega) hL9 (hL6.below B9) hz9).mono ?_
        rintro e w10 ⟨rfl, hb10⟩
        have B10 : Below w1.heap.size w1 w10 := B9.trans (hb10.mono B9.size)
        clear hb10 hL9 B9
        go_wp2_with fail
        go_meet
        case rel => exact B10
  case rest =>
    have BX : Below w1.heap.size w1 wc := hcut
    clear hor B6
    go_wp2_with fail
    have ee : ((n : Int) + 1) = ((n + 1 : Nat) : Int) := by omega
    rw [ee]; clear ee
    refine (round_any q (n + 1) _ (by omega) (by omega) hq0 hq1).mono ?_
    rintro e w2' ⟨k, hk, rfl, hw2'⟩
    subst hw2'
    have k0 : (0 : Int) ≤ k := by omega
    have k1 : (k : Int) ≤ n := by omega
    have hcbn := hBb.fits
    have k2 : (k : Int) ≤ cb := by omega
    obtain ⟨j, hj, hj1, hj2⟩ := cut_at G k
    obtain ⟨t, hte, htn⟩ := cut_split G hfit j k hj1 (by
      rcases hj2 with h | ⟨s, h1, h2⟩
      · exact .inl h
      · exact .inr ⟨s, h1, by rw [← (hfit s (List.mem_of_getElem? h1)).1]; exact h2⟩)
    have BF : Bs w1 ab k cb ((flat G).take k) := hBb.frontAny k (by omega)
    go_wp2_with fail
    refine (lent_rel w1 _ ab k cb ((flat G).take k) BX BF (by omega)).mono ?_
    rintro e w3 ⟨g3, cp3, rfl, hB3, hb3⟩
    go_wp2_with fail
    refine (scan_frames (some ⟨g3, 0, none⟩) k cp3 ((flat G).take k) t (G.take j) _ hB3.len hB3.has hB3.oct (T1.below hb3 T1.pos) (by omega) (fun s h => hfit s (List.mem_of_mem_take h)) hte htn).mono ?_
    rintro e w4 ⟨a4, c4, s4, rfl, hL4, hl4, hz4, hb4⟩
    have B4 : Below w1.heap.size w1 w4 := hb3.trans (hb4.mono hb3.size)
    rw [List.length_take, Nat.min_eq_left hj]
    have HL4 : Hid (s4.length = j) := by show s4.length = j; rw [hl4, List.length_take]; omega
    have HZ4 : Hid (s4.map (·.zs) = (G.take j).map (·.zs)) := hz4
    have HT : Hid ((flat G).take k = flat (G.take j) ++ t) := hte
    clear hl4 hz4 hb4 hb3 hB3 hte htn BX
    go_wp2_with fail
    obtain ⟨L, hLe⟩ : ∃ L : Nat → Nat, ∀ i, (flat (G.take i)).length = L i := ⟨_, fun _ => rfl⟩
    have HLe : Hid (∀ i, (flat (G.take i)).length = L i) := hLe
    have HL0 : Hid (L 0 = 0) := by show L 0 = 0; rw [← hLe]; simp [flat]
    have HPL : Hid (∀ i (h : i < G.length), (plc 0 G).getD i 0 = (L (i + 1) : Int) ∧ L (i + 1) = L i + (8 + G[i].n)) := fun i h => by
      have := plc_at G hfit i h
      rw [hLe, hLe] at this; exact this
    have HMono : Hid (∀ i, i < j → L (i + 1) ≤ L j) := fun i h => by
      rw [← hLe, ← hLe]
      have e : G.take j = G.take (i + 1) ++ (G.take j).drop (i + 1) := by
        have := (List.take_append_drop (i + 1) (G.take j)).symm
        rwa [List.take_take, Nat.min_eq_left (by omega)] at this
      rw [e, flat_append, List.length_append]; omega
    rw [hLe] at hj1 ⊢
    clear hLe
    go_loop [20, 21] (fun t u => ∃ i : Nat, i ≤ j ∧ t = .int .i64 i ∧ u = .int .i64 (L i)) (fun t _ => j - (intOf t).toNat)
    case atStart => exact ⟨0, by omega, rfl, by rw [HL0.out]; rfl⟩
    case round =>
      obtain ⟨i, hij, rfl, rfl⟩ := hrel
      by_cases hlt : i < j
      · have hiG : i < G.length := by omega
        rcases hI7 with h0 | ⟨g7, rfl, hc7⟩
        · omega
        have hcell : w4.cell? ⟨g7, i, none⟩ = some (.int .i64 (L (i + 1) : Int)) := by
          have h1 := hc7 i hiG
          rw [(HPL.out i hiG).1] at h1
          exact (B4.cell (p := ⟨g7, i, none⟩) (by have := World.block_lt_of_cell? w1 _ h1; simpa using this)).trans h1
        have hLk : (L (i + 1) : Int) ≤ k := by have := HMono.out i hlt; omega
        have i0' : (0 : Int) ≤ i := by omega
        have i1' : (i : Int) < G.length := by omega
        clear hc7
        go_wp2
        go_round
        case rel => exact ⟨i + 1, by omega, by go_num, rfl⟩
        case measure => simp [intOf]; omega
      · obtain rfl : i = j := by omega
        have hLA : LL w4 a6 (G.take i) := hL6.front i |>.below B4
        have i2' : (i : Int) ≤ c6 := by omega
        have i0' : (0 : Int) ≤ i := by omega
        rcases hj2 with hje | ⟨s, hs1, hs2⟩
        · have hge : ¬ (i : Int) < G.length := by omega
          go_wp2_with fail
          refine (lists_any a4 a6 G.length c4 c6 s4 (G.take i) _ (HL4.out.trans hje) (by omega) hL4 hLA HZ4.out).mono ?_
          rintro e w5 ⟨rfl, hb5⟩
          have B5 : Below w.heap.size w w5 := B1.trans ((B4.trans (hb5.mono B4.size)).mono B1.size)
          clear hb5 hLA hL4
          go_wp2
          go_ret
          exact ⟨rfl, B5⟩
        · obtain ⟨hiG, rfl⟩ := List.getElem?_eq_some_iff.1 hs1
          rcases hI7 with h0 | ⟨g7, rfl, hc7⟩
          · omega
          have hcell : w4.cell? ⟨g7, i, none⟩ = some (.int .i64 (L (i + 1) : Int)) := by
            have h1 := hc7 i hiG
            rw [(HPL.out i hiG).1] at h1
            exact (B4.cell (p := ⟨g7, i, none⟩) (by have := World.block_lt_of_cell? w1 _ h1; simpa using this)).trans h1
          have hLk : (k : Int) < L (i + 1) := by
            have := (HPL.out i hiG).2
            have hz := (hfit G[i] (List.getElem_mem hiG)).1
            have := HLe.out i
            omega
          have i1' : (i : Int) < G.length := by omega
          clear hc7
          go_wp2_with fail
          refine (lists_any a4 a6 i c4 c6 s4 (G.take i) _ HL4.out (by omega) hL4 hLA HZ4.out).mono ?_
          rintro e w5 ⟨rfl, hb5⟩
          have B5 : Below w.heap.size w w5 := B1.trans ((B4.trans (hb5.mono B4.size)).mono B1.size)
          clear hb5 hLA hL4
          go_wp2
          go_ret
          exact ⟨rfl, B5⟩
end Go.Proofs.YtcjefhgnmpomjaaDoor
