/- Where the reference's texts begin (bids). -/
import Derived.Test.YtbmbnbhedalcnabXy
