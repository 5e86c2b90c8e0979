import Derived.Test.YtceojneljnnooaaGreatZCf
open Go.Proofs.Tryz
namespace Go.Proofs.YtceojneljnnooaaGreat
open Go.RowKit
set_option maxHeartbeats 0
set_option maxRecDepth 100000
set_option linter.all false
theorem sK(b t:Int)(a1:zO)(n c1:Nat)(e1:zO)(k d1:Nat)(z J:Int)(a2:zO)(n' c2:Nat)(e2:zO)(Z d2:Nat)(N N':zL)(w:zW)(h1:gT w a1 n N)(g1:k<=maxLen)(h2:gT w a2 n' N')(g2:Z<=maxLen):
  Calls prog 101 #[.agg #[.int .i64 b,.int .i64 t,.slice a1 n c1,.slice e1 k d1],.agg #[.int .i64 z,.int .i64 J,.slice a2 n' c2,.slice e2 Z d2]] w λe w'=>e=.returned (bC (iG b t N k z J N' Z))/\Below w.heap.size w w':=by
 have hB:=bG w (.cells #[.int .i64 b,.int .i64 t,.slice a1 n c1,.slice e1 k d1] 35) (.cells #[.int .i64 z,.int .i64 J,.slice a2 n' c2,.slice e2 Z d2] 35)
 have HB:=aj hB
 have a6:=aj (Gi b t a1 e1 n c1 k d1 N _ (aG h1 hB) g1)
 have b3:=aj (λW h=>Gi z J a2 e2 n' c2 Z d2 N' W h g2)
 have b4:=aj (aG h2 hB)
 have a7:=aj (λw'=>@jw w w' (.int .i64 b) (.int .i64 t) (.slice a1 n c1) (.slice e1 k d1) (.int .i64 z) (.int .i64 J) (.slice a2 n' c2) (.slice e2 Z d2) 35)
 clear h1 h2 g1 g2 hB
 have U:Hid (iG b t N k z J N' Z=if bP b t N k=0 then(if bP z J N' Z=0 then(if b=z/\t=J then 0 else 2)else bP z J N' Z)else bP b t N k):=rfl
 generalize iG b t N k z J N' Z=R at U⊢
 generalize bP b t N k=x at U a6
 generalize bP z J N' Z=y at U b3
 generalize b6:(w.alloc (.cells #[.int .i64 b,.int .i64 t,.slice a1 n c1,.slice e1 k d1] 35)).alloc (.cells #[.int .i64 z,.int .i64 J,.slice a2 n' c2,.slice e2 Z d2] 35)=w0 at HB a6 b4 a7
 obtain⟨⟨p0,p1,p2,p3⟩,q0,q1,q2,q3⟩:=a7.out w0 zb
 go_enter func101,ntmps101
 go_wp2_with fail
 clear b6 p0 p1 p2 p3 q0 q1 q2 q3
 refine a6.out.mono ?_
 rintro e w1 ⟨rfl,a8⟩
 have b0:=aj a8
 have b5:=aj (ak HB.out a8)
 clear a8 a6
 by_cases hx:x=0
 ·rw[yP hx]at U
  rw[dz hx]
  obtain⟨⟨p0,p1,p2,p3⟩,q0,q1,q2,q3⟩:=a7.out w1 b0.out
  go_wp2_with fail
  refine(b3.out w1 (aG b4.out b0.out)).mono ?_
  rintro e w2 ⟨rfl,b1⟩
  have b7:=aj (ak b0.out b1)
  have b2:=aj (ak b5.out b1)
  clear b1 p0 p1 p2 p3 q0 q1 q2 q3
  by_cases hy:y=0
  ·rw[yP hy]at U
   rw[dz hy]
   obtain⟨⟨p0,p1,p2,p3⟩,q0,q1,q2,q3⟩:=a7.out w2 b7.out
   by_cases h:b=z/\t=J
   ·rw[yP h]at U
    obtain⟨rfl,rfl⟩:=h
    have b8:(b !=b)=false:=by simp
    have b9:(t !=t)=false:=by simp
    go_wp2
    go_ret
    exact⟨by rw[U.out];simp[bC],b2.out⟩
   ·rw[yN h]at U
    have h':(b !=z)=true\/((b !=z)=false/\(t !=J)=true):=by
     by_cases hb:b=z
     ·exact .inr ⟨by simpa using hb,by simpa using λe=>h ⟨hb,e⟩⟩
     ·exact .inl (by simpa using hb)
    clear h
    rcases h' with h|⟨h,h'⟩
    all_goals
     go_wp2
     go_ret
     exact⟨by rw[U.out];simp[bC],b2.out⟩
  ·rw[yN hy]at U
   rw[dx hy]
   have HY:=aj hy
   clear hy
   go_wp2
   go_ret
   exact⟨by rw[U.out,dx HY.out];simp,b2.out⟩
 ·rw[yN hx]at U
  rw[dx hx]
  have HX:=aj hx
  clear hx
  go_wp2
  go_ret
  exact⟨by rw[U.out,dx HX.out];simp,b5.out⟩
theorem xQ{b t:Int}{N:zL}{k:Nat}{z J:Int}{U:zL}{Z:Nat}(h:iG b t N k z J U Z=0):bP b t N k=0/\bP z J U Z=0/\b=z/\t=J:=by
 unfold iG at h;split at h
 ·split at h
  ·split at h
   ·rename_i h1 h2 h3;exact⟨h1,h2,h3⟩
   ·cases h
  ·contradiction
 ·contradiction
end Go.Proofs.YtceojneljnnooaaGreat
